/-
  Texts put together: contracts and laws that this seat's proofs share.
-/
import Derived.Test.YtalknbadakfppaaGreatQa0
import Derived.RegionTactic
import Derived.BigRegionIn
import Derived.Sort.CutIn
import Derived.ChangeAlike
import Derived.Outline
import Derived.WalkKit
import Derived.Laws.MakeOwn
import Derived.Laws.OwnMore
import Derived.Lib.QuietBelow
import Derived.Orders
import Derived.Still
import Derived.Handy
import Derived.Shelf.Abstract
import Derived.Laws.StructEq
import Derived.BigQuiet
import Derived.Lib.SliceRun
import Derived.BigRegion
import Derived.Deep.QuietTactic
import Derived.Lib.Bytealg
import Derived.Laws.AppendOwn
import Derived.Laws.IdiomStrings
import Derived.OwnWalk
import Derived.Below
import Derived.Lib.Hide
import Derived.Lib.AppendZerosOnto
import Derived.Lib.BufferWrite
import Derived.Deep.RegionLaw
import Derived.StillTailTactics
import Derived.LaidEql
import Derived.Stop.Asserts
import Derived.RowKitTokens
import Derived.Shelf.Strings.IndexAnyAll
import Derived.Shelf.Small.Strs
import Derived.Shelf.Pu.Clone
import Derived.Ground.MpProg
import Derived.Test.YtalknbadakfppaaGreatProg
set_option linter.unusedVariables false
namespace Go.Proofs.YtalknbadakfppaaGreat
open Go.RowKit Go.Shelf
attribute [local go_sem] Oper.semAt_some
theorem infoStr_Frs : (Tryz.prog.info? 9).map (fun i => (i.zero, i.size, i.bytes)) = some (some (.string ⟨#[]⟩), 1, 16) := by kernel_rfl
def strsOf_Frs (L : List (List UInt8)) : List ByteArray := L.map fun l => ⟨l.toArray⟩
theorem strsOf_len_Frs (L : List (List UInt8)) : (strsOf_Frs L).length = L.length := List.length_map ..
theorem strsOf_snoc_Frs (L : List (List UInt8)) (t : List UInt8) : strsOf_Frs (L ++ [t]) = strsOf_Frs L ++ [⟨t.toArray⟩] := by simp [strsOf_Frs]
set_option maxRecDepth 100000 in
set_option maxHeartbeats 1000000 in
theorem Same_eq (v1 v2 : Value) (L : List ByteArray) (w : World) (h1 : IsStrs w v1 L) (h2 : IsStrs w v2 L) :
    Calls Tryz.prog 13 #[v1, v2] w fun e w' => e = .returned (.bool true) ∧ Below w.heap.size w w' := by
  obtain ⟨hm, a1, c1, rfl, _, hc1⟩ := h1
  obtain ⟨_, a2, c2, rfl, _, hc2⟩ := h2
  have hmm : L.length ≤ 9223372036854775807 := by unfold maxLen at hm; omega
  have H1 := Lib.hid hc1; have H2 := Lib.hid hc2
  clear hc1 hc2 hm
  go_enter Tryz.func13, Tryz.ntmps13
  go_wp2
  go_loopw [5] (fun i wr => ∃ k m : Nat, k ≤ L.length ∧ i = .int .i64 k ∧ wr = w.drewN m) (fun i _ => L.length - (intOf i).toNat)
  case atStart => exact ⟨0, 0, Nat.zero_le _, rfl, rfl⟩
  case round =>
    obtain ⟨k, m, hk, rfl, rfl⟩ := hrel
    by_cases hlt : k < L.length
    · obtain ⟨b1, o1, rfl, _, g1⟩ := H1.out (by omega)
      obtain ⟨b2, o2, rfl, _, g2⟩ := H2.out (by omega)
      have q1 := g1 k hlt
      have q2 := g2 k hlt
      clear g1 g2
      have hbk : decide ((k : Int) < (L.length : Int)) = true := by simpa using (show (k : Int) < L.length by omega)
      go_wp2_with fail
      go_quiet (fail)
      go_wp2
      go_roundw
      case rel => exact ⟨k + 1, m + nq, by omega, by go_num, by simp [World.drewN]⟩
      case measure => simp [intOf]; omega
    · go_wp2
      go_ret
      exact ⟨rfl, below_drewN (Below.refl _ _) _⟩
def RetScan (l : List UInt8) (w : World) (e : Ending) (w' : World) : Prop := ∃ v, e = .returned (.tuple #[v, .int .i64 (scanEnd l : Nat)]) ∧ IsStrs w' v (strsOf_Frs (textsOf l)) ∧ Below w.heap.size w w'
theorem cell_one_Frs {w : World} {v : Value} {t : TypeId} : ∀ j u, [v][j]? = some u → (w.alloc (.cells #[v] t)).cell? ((⟨w.heap.size, 0, none⟩ : Addr).add j) = some u := by
  intro j u hj
  match j, hj with
  | 0, hj => simp at hj; subst hj; simp [Addr.add]
set_option maxRecDepth 100000 in
set_option maxHeartbeats 2000000 in
theorem refScan_any (s : ByteArray) (hs : s.size ≤ 1000000) (w : World) :
    Calls Tryz.prog 56 #[.string s] w (RetScan s.data.toList w) := by
  have HS := Lib.hid (Lib.size_eq s)
  obtain ⟨i0, hi, hz0, hz1, hz2⟩ := info_parts infoStr_Frs
  go_enter Tryz.func56, Tryz.ntmps56
  go_wp2
  go_loopw [4, 5] (fun v i wr => ∃ (pre : List (List UInt8 × Nat)) (p : Nat), i = .int .i64 p ∧ scanI s.data.toList pre p ∧ wr.ownsRow w.heap.size 9 1 v (strsOf_Frs (pre.map (·.1))).length (strCells (strsOf_Frs (pre.map (·.1)))) ∧ Below w.heap.size w wr)
    (fun v i _ => s.size - (intOf i).toNat)
  case atStart => exact ⟨[], 0, rfl, scanI_zero _, World.ownsRow_nil _ _ _ _, Below.refl _ _⟩
  case round =>
    obtain ⟨pre, p, rfl, hI, hown, hB⟩ := hrel
    have hpl := scanI_le hI
    rw [← HS.out] at hpl
    have hsz := hB.size
    have HI := Lib.hid hI; clear hI
    by_cases hlt : p < s.size
    · have hbk : decide ((p : Int) < (s.size : Int)) = true := by simpa using (show (p : Int) < s.size by omega)
      have hd1 := fun W => run_slice_from (P := Tryz.prog) Tryz.underlying9 s p hpl W
      obtain ⟨x, hx⟩ : ∃ x, x = s.extract p s.size := ⟨_, rfl⟩
      rw [← hx] at hd1
      have hxs : x.size ≤ maxLen := by rw [hx, ByteArray.size_extract]; unfold maxLen; omega
      have hxl : x.data.toList = s.data.toList.drop p := by rw [hx, Lib.extract_to_end]
      have hO := fun W => refOpen_any x hxs W
      rw [hxl] at hO
      obtain ⟨t, u, e, hv⟩ : ∃ t u e, fopen (s.data.toList.drop p) = (t, u, e) := ⟨_, _, _, rfl⟩
      rw [hv] at hO
      have HO := Lib.hid hO
      clear hO hx hxl hxs
      by_cases he : e = 0
      · subst he
        have hstep := scanI_step HI.out hv
        obtain ⟨g1, g2, _, g4⟩ := fopen_ok hv
        have hple := scanI_le hstep
        have hlen := scanI_len hstep
        rw [← HS.out] at hple hlen
        have HST := Lib.hid hstep
        clear hstep hv g2
        go_wp2_with fail
        refine (HO.out _).mono ?_
        rintro e w1 ⟨rfl, hb1⟩
        have hown1 := hown.kept (grownBy_of_below hb1) (by cases hv : u4.ownBlock <;> simp)
        have hB1 := below_step hB hb1
        have hsz1 := hB1.size
        have hll : (strsOf_Frs (pre.map (·.1))).length + 1 ≤ 1000000 := by
          rw [strsOf_len_Frs, List.length_map]
          rw [List.length_append, List.length_singleton] at hlen
          omega
        clear hlen hown hB
        go_wp2_with (at_builtin; refine wpList_append_own _ rfl _ _ 22 rfl w.heap.size 9 i0 (.string ⟨#[]⟩) 1 16 Tryz.underlying22 hi hz0 hz1 hz2 rfl (by decide) _ _ _ rfl (hown1.alloc _) ⟨w1.heap.size, 0, none⟩ 1 1 [.string ⟨t.toArray⟩] rfl rfl cell_one_Frs ?c2 ?c3 ?c4 ?c5 ?_)
        case c2 => intro u hu; simp at hu; subst hu; rfl
        case c3 => unfold maxLen; omega
        case c4 => omega
        case c5 => simp; omega
        intro v' w2 hown' hgrow _
        have hb2 : Below w.heap.size w w2 := (hB1.alloc hsz1 _).grown hgrow (by simp; omega) (fun j hj => (hown1.lt j hj).1)
        have hown2 : w2.ownsRow w.heap.size 9 1 v' (strsOf_Frs ((pre ++ [(t, p + u)]).map (·.1))).length (strCells (strsOf_Frs ((pre ++ [(t, p + u)]).map (·.1)))) := by
          rw [List.map_append, List.map_singleton, strsOf_snoc_Frs, List.length_append, strCells_app]; exact hown'
        clear hown1 hown' hgrow hB1
        go_wp2
        go_roundw
        case rel => exact ⟨_, p + u, by go_num, HST.out, hown2, hb2⟩
        case measure => simp [intOf]; omega
      · have hend := scanI_end HI.out hv he
        obtain ⟨rfl, rfl, h4⟩ := fopen_err hv he
        have he' : (!((e : Int) == 0)) = true := by simp; omega
        have he2 : ((e : Int) != 0) = true := by simp; omega
        have hfin := scanI_fin HI.out hend
        have hT : textsOf s.data.toList = pre.map (·.1) := by rw [textsOf, hend]
        have HT := Lib.hid hT; have HF := Lib.hid hfin
        clear hend hfin hT hv
        go_wp2_with fail
        refine (HO.out _).mono ?_
        rintro e w1 ⟨rfl, hb1⟩
        have hown1 := hown.kept (grownBy_of_below hb1) (by cases hv : u4.ownBlock <;> simp)
        have hB1 := below_step hB hb1
        have hres : IsStrs w1 u4 (strsOf_Frs (textsOf s.data.toList)) := by rw [HT.out]; exact IsStrs.of_owns hown1
        clear hown hown1 hB
        go_wp2
        go_ret2
        exact ⟨_, by rw [scanEnd, HF.out]; rfl, hres, hB1⟩
    · have hend := scanI_over HI.out (by rw [← HS.out]; omega)
      have hfin := scanI_fin HI.out hend
      have hT : textsOf s.data.toList = pre.map (·.1) := by rw [textsOf, hend]
      have hres : IsStrs wr u4 (strsOf_Frs (textsOf s.data.toList)) := by rw [hT]; exact IsStrs.of_owns hown
      have HF := Lib.hid hfin
      clear hend hfin hT hown
      go_wp2
      go_ret2
      exact ⟨_, by rw [scanEnd, HF.out]; rfl, hres, hB⟩
theorem wholeFrames_any (s : ByteArray) (w : World) :
    Calls Tryz.prog 55 #[.string s] w fun e w' => e = .returned (.func (.func 79) #[] #[.pointer (some ⟨w.heap.size, 0, none⟩)]) ∧ w' = w.alloc (.cells #[.string s] 9) := by
  go_enter Tryz.func55, Tryz.ntmps55
  go_wp2
  go_ret
  exact ⟨rfl, rfl⟩
abbrev encF (x : List UInt8 × Nat) : Array Value := #[.string ⟨x.1.toArray⟩, .int .i64 (x.2 : Nat)]
set_option maxHeartbeats 1000000 in
set_option maxRecDepth 100000 in
theorem wholeFrames1_stops (n : Nat) (hn : 1 ≤ n) (Bn : Nat) (s : ByteArray) (hs : s.size ≤ maxLen) (w : World) (hB : Boxed w Bn 9 (.string s)) :
    SeqStopsK Fence.wide n Tryz.prog 79 #[.pointer (some ⟨Bn, 0, none⟩)] encF (KeepsBox Bn 9 (.string s)) (fun xs => xs = frames s.data.toList) (fun pre => pre <+: frames s.data.toList) (frames s.data.toList).length w := fun l J Jx W hW hJ hJx hY h0 => by
  unfold maxLen at hs
  have hb1 : Boxed W Bn 9 (.string s) := (hW.block Bn hB.lt).trans hB
  have hc1 := hb1.cell
  have HS := Lib.hid (Lib.size_eq s)
  have hro : Fence.wide.round = none := rfl
  refine callsIn_of_wp Tryz.func79 rfl trivial ?_ hro
  simp only [Tryz.ntmps79, List.size_toArray, List.length_cons, List.length_nil, Nat.reduceAdd, Nat.reduceSub, Array.replicate_succ, Array.replicate_zero, List.push_toArray, List.append_toArray, List.nil_append, List.cons_append]
  gi_wp2
  gi_loopw [3] (fun q wr => ∃ (pre : List (List UInt8 × Nat)) (p : Nat), q = .int .i64 p ∧ scanI s.data.toList pre p ∧ J pre wr ∧ Boxed wr Bn 9 (.string s))
    (fun q wr => s.size - (intOf q).toNat)
  case atStart =>
    exact ⟨[], 0, rfl, scanI_zero _, h0, hb1⟩
  case round =>
    obtain ⟨pre, p, rfl, hI, hJs, hbx⟩ := hrel
    have hpl := scanI_le hI
    rw [← HS.out] at hpl
    have HI := Lib.hid hI; clear hI
    have hd1 := fun W => run_slice_from (P := Tryz.prog) Tryz.underlying9 s p hpl W
    obtain ⟨x, hx⟩ : ∃ x, x = s.extract p s.size := ⟨_, rfl⟩
    rw [← hx] at hd1
    have hxs : x.size ≤ maxLen := by rw [hx, ByteArray.size_extract]; unfold maxLen; omega
    have hxl : x.data.toList = s.data.toList.drop p := by rw [hx, Lib.extract_to_end]
    have hO := fun W => Open_any x hxs W
    rw [hxl] at hO
    obtain ⟨t, u, e, hv⟩ : ∃ t u e, fopen (s.data.toList.drop p) = (t, u, e) := ⟨_, _, _, rfl⟩
    rw [hv] at hO
    have HO := Lib.hid hO
    have hcx := hbx.cell
    clear hO hx hxl hxs
    by_cases he : e = 0
    · subst he
      have hstep := scanI_step HI.out hv
      obtain ⟨g1, g2, _, g4⟩ := fopen_ok hv
      have hple := scanI_le hstep
      have hpre := scanI_pre hstep
      have hplen := hpre.length_le
      rw [← HS.out] at hple
      have HST := Lib.hid hstep; have HPRE := Lib.hid hpre
      clear hstep hv g2 hpre
      gi_wp2_with (refine ⟨trivial, ?_⟩; gi_at_call 80; refine (callsIn_wide.2 (HO.out _)).mono ?_; rintro e w1 ⟨rfl, hbo⟩; have hbx1 : Boxed w1 Bn 9 (.string s) := (hbo.block Bn hbx.lt).trans hbx; have hcx1 := hbx1.cell; obtain ⟨fn, tmps, assign, body, hy, hR⟩ := hY pre (t, p + u) w1 (hJ _ wr w1 none hJs (grownBy_of_below hbo) (fun r e => by cases e)) (by rw [List.length_append, List.length_singleton] at hplen; omega); simp only [encF, Int.natCast_add] at hy; clear hY hplen)
      refine hR.mono ?_
      rintro e W3 (⟨rfl, hJ3, hk3⟩ | ⟨rfl, hJx3⟩)
      · gi_wp2
        go_roundw
        case rel => exact ⟨_, p + u, by go_num, HST.out, hJ3, hk3 hbx1⟩
        case measure => simp [intOf]; omega
      · gi_wp2
        refine bodyPost_ret (results_none rfl _ _ _) rfl ?_
        exact ⟨⟨_, rfl⟩, .inr ⟨_, HPRE.out, hJx3⟩⟩
    · have hend := scanI_end HI.out hv he
      obtain ⟨rfl, rfl, h4⟩ := fopen_err hv he
      have he' : (!((e : Int) == 0)) = true := by simp; omega
      have he2 : ((e : Int) != 0) = true := by simp; omega
      have HE := Lib.hid hend
      clear hend hv hY
      gi_wp2_with (refine ⟨trivial, ?_⟩; gi_at_call 80; refine (callsIn_wide.2 (HO.out _)).mono ?_; rintro e w1 ⟨rfl, hbo⟩)
      have hJ1 := hJ _ wr w1 none hJs (grownBy_of_below hbo) (fun r e => by cases e)
      refine bodyPost_ret (results_none rfl _ _ _) rfl ?_
      exact ⟨⟨_, rfl⟩, .inl ⟨_, HE.out.symm, hJ1⟩⟩
def scanJ (b : Nat) (pre : List (List UInt8 × Nat)) (W : World) : Prop :=
  b + 3 ≤ W.heap.size ∧ Boxed W (b + 1) 3 (.int .i64 (endOf pre : Nat)) ∧ ∃ v, Boxed W b 22 v ∧ W.ownsRow (b + 3) 9 1 v (strsOf_Frs (pre.map (·.1))).length (strCells (strsOf_Frs (pre.map (·.1))))
theorem scanJ_own (b : Nat) : Own (scanJ b) := by
  rintro pre A B row ⟨h0, h1, v, h2, h3⟩ hg hr
  refine ⟨Nat.le_trans h0 hg.size, boxed_keep h1 hg hr, v, boxed_keep h2 hg hr, h3.kept hg ?_⟩
  rcases hob : v.ownBlock with _ | g
  · exact .inl rfl
  · refine .inr fun h => ?_
    obtain ⟨o, ho, hc⟩ := hr g h.symm
    rcases h3.2 with ⟨rfl, _⟩ | ⟨g', cap, cur, rfl, _, hgg, _⟩
    · cases hob
    · cases hob
      rw [hgg] at ho; cases ho; cases hc
set_option maxRecDepth 100000 in
set_option maxHeartbeats 4000000 in
theorem Scan_any (s : ByteArray) (hs : s.size ≤ 1000000) (w : World) :
    Calls Tryz.prog 28 #[.string s] w (RetScan s.data.toList w) := by
  have hsl : s.size ≤ maxLen := by unfold maxLen; omega
  refine (callsIn_wide (n := 5)).1 ?_
  have hro : Fence.wide.round = none := rfl
  obtain ⟨i0, hi, hz0, hz1, hz2⟩ := info_parts infoStr_Frs
  refine callsIn_of_wp_marks Tryz.func28 rfl trivial ?_ hro
  simp only [Tryz.ntmps28, List.size_toArray, List.length_cons, List.length_nil, Nat.reduceAdd, Nat.reduceSub, Array.replicate_succ, Array.replicate_zero, List.push_toArray, List.append_toArray, List.nil_append, List.cons_append]
  gi_wp2_with (refine ⟨trivial, ?_⟩; gi_at_call 55; refine (callsIn_wide.2 (wholeFrames_any s _)).mono ?_; rintro e w' ⟨rfl, rfl⟩)
  have hB0 : Below w.heap.size w (((w.alloc (.cells #[.slice none 0 0] 22)).alloc (.cells #[.int .i64 0] 3)).alloc (.cells #[.string s] 9)) :=
    (((Below.refl _ w).alloc (Nat.le_refl _) _).alloc (by simp) _).alloc (by simp; omega) _
  have hs0 := Boxed.new ((w.alloc (.cells #[.slice none 0 0] 22)).alloc (.cells #[.int .i64 0] 3)) 9 (.string s)
  have hI0 : scanJ w.heap.size [] (((w.alloc (.cells #[.slice none 0 0] 22)).alloc (.cells #[.int .i64 0] 3)).alloc (.cells #[.string s] 9)) := by
    have h0 := ((Boxed.new w 22 (.slice none 0 0)).alloc (.cells #[.int .i64 0] 3)).alloc (.cells #[.string s] 9)
    have h1 := (Boxed.new (w.alloc (.cells #[.slice none 0 0] 22)) 3 (.int .i64 0)).alloc (.cells #[.string s] 9)
    simp only [World.size_alloc] at h0 h1
    exact ⟨by simp, h1, _, h0, World.ownsRow_nil _ _ _ _⟩
  simp only [World.size_alloc] at hs0
  have hs0' : Boxed (((w.alloc (.cells #[.slice none 0 0] 22)).alloc (.cells #[.int .i64 0] 3)).alloc (.cells #[.string s] 9)) (w.heap.size + 2) 9 (.string s) := hs0
  refine wpIn_rangeFunc_ownF hro (by decide) (gf := 79) (lb := #[.pointer (some ⟨w.heap.size + 2, 0, none⟩)]) rfl trivial (enters_of Tryz.func79 (by kernel_rfl) rfl)
    (wholeFrames1_stops 4 (by decide) (w.heap.size + 2) s hsl _ hs0') (fun h k => fun x => k (h x)) (fun W l o o' hl h _ _ hb => hb.kept (grownBy_putObj' W l o') (fun e => by cases e; simp at hl; omega)) (Below.refl _ _) (fun _ => rfl)
    (fun pre W => scanJ w.heap.size pre W ∧ Below w.heap.size w W)
    (fun _ _ _ => False)
    (OwnFrom.and (Own.from (scanJ_own _) _) (ownFrom_below (Nat.le_refl _) (by simp; omega)))
    (fun _ _ _ _ _ hs _ _ => hs)
    ⟨hI0, hB0⟩
    (fun x => { tmps := #[.string s, undef, .slice none 0 0, .int .i64 0, .pointer (some ⟨w.heap.size, 0, none⟩), .pointer (some ⟨w.heap.size + 1, 0, none⟩), .string ⟨x.1.toArray⟩, .int .i64 (x.2 : Nat), .string s, .func (.func 79) #[] #[.pointer (some ⟨w.heap.size + 2, 0, none⟩)], .string ⟨x.1.toArray⟩, .int .i64 (x.2 : Nat), undef, undef, undef, undef, undef, undef, undef], defers := [] }) ?assign ?body ?done ?stop
  case assign =>
    intro l x W K hK
    gi_wp2
    exact hK
  case body =>
    rintro l pre ⟨t, q⟩ W ⟨⟨hz, b1, v, b0, hown⟩, hB⟩ hlen
    have hfl := frames_len s.data.toList
    rw [← Lib.size_eq] at hfl
    have hll : (strsOf_Frs (pre.map (·.1))).length + 1 ≤ 1000000 := by
      rw [strsOf_len_Frs, List.length_map]; omega
    have c0 := b0.cell; have c1 := b1.cell
    have f0 := b0.frozen; have f1 := b1.frozen
    clear hB0 hs0 hs0' hI0 hfl hlen
    gi_wp2_with (gi_at_builtin; refine wpListIn_append_own _ rfl _ _ 22 rfl (w.heap.size + 3) 9 i0 (.string ⟨#[]⟩) 1 16 Tryz.underlying22 hi hz0 hz1 hz2 rfl (by decide) _ _ _ rfl (hown.alloc _) ⟨W.heap.size, 0, none⟩ 1 1 [.string ⟨t.toArray⟩] rfl rfl cell_one_Frs ?c2 ?c3 ?c4 ?c5 ?_)
    case c2 => rfl
    case c3 => unfold maxLen; omega
    case c4 => omega
    case c5 => omega
    intro v' w2 hown' hgrow _
    obtain ⟨g, cap, rfl⟩ := ownsRow_slice hown'
    have hlt := hown.lt
    have e0 : Boxed w2 w.heap.size 22 v := (b0.alloc _).kept hgrow (fun e => by have := (hlt _ e.symm).1; omega)
    have e1 : Boxed w2 (w.heap.size + 1) 3 (.int .i64 (endOf pre : Nat)) := (b1.alloc _).kept hgrow (fun e => by have := (hlt _ e.symm).1; omega)
    have hk : KeepsOthers W w2 := (KeepsOthers.alloc _ _).trans (KeepsOthers.of_grownBy hgrow (fun j o hj ho => by
      rcases (hown.alloc _).2 with ⟨rfl, _⟩ | ⟨g', cap', cur, rfl, _, hgg, _⟩
      · cases hj
      · cases hj
        rw [hgg] at ho; cases ho; rfl))
    have hbx : KeepsBox (w.heap.size + 2) 9 (.string s) W w2 := fun hx => (hx.alloc _).kept hgrow (fun e => by have := (hlt _ e.symm).1; omega)
    have hb2 : Below w.heap.size w w2 := (hB.alloc (by omega) _).grown hgrow (by simp; omega) (fun j hj => by have := (hlt j hj).1; omega)
    have hz2' : w.heap.size + 3 ≤ w2.heap.size := Nat.le_trans hz (Nat.le_trans (by simp) hgrow.size)
    have hg3 := (hown'.lt g rfl).1
    have d0 := e0.cell; have d1 := e1.cell
    have m0 := e0.frozen; have m1 := e1.frozen
    clear hown hgrow hlt c0 c1 f0 f1 hB b0 b1
    gi_wp2
    refine ⟨hk.trans ((KeepsOthers.setCell _ _ _).trans (KeepsOthers.setCell _ _ _)), fun hx => boxed_set (boxed_set (hbx hx) _ (by omega)) _ (by omega), ⟨by simpa using hz2', ?_, .slice (some ⟨g, 0, none⟩) ((strsOf_Frs (pre.map (·.1))).length + 1) cap, ?_, ?_⟩, (hb2.setCell (p := ⟨w.heap.size, 0, none⟩) (Nat.le_refl _) _).setCell (p := ⟨w.heap.size + 1, 0, none⟩) (by simp) _⟩
    · rw [endOf_snoc]; exact (boxed_set e1 _ (by omega)).set _
    · exact boxed_set (e0.set _) _ (by omega)
    · rw [List.map_append, List.map_singleton, strsOf_snoc_Frs, List.length_append, strCells_app]
      refine (hown'.kept (grownBy_setCell' _ _ _) (.inr ?_)).kept (grownBy_setCell' _ _ _) (.inr ?_)
      · simp [Value.ownBlock]; omega
      · simp [Value.ownBlock]; omega
  case done =>
    rintro D xs W hD rfl ⟨⟨hz, b1, v, b0, hown⟩, hB⟩ hK
    have c0 := b0.cell; have c1 := b1.cell
    have f0 := b0.frozen; have f1 := b1.frozen
    clear hB0 hs0 hs0' hI0
    gi_wp2
    gi_region
    all_goals
      gi_wp2
      have hK' : W.drew.heap[D]? = some (.deferred (some [])) := hK
      refine ⟨by simp, .inl ⟨_, _, rfl, run_takeDeferred hK', ?_⟩⟩
      have hown2 : W.drew.ownsRow (w.heap.size + 3) 9 1 v (strsOf_Frs (textsOf s.data.toList)).length (strCells (strsOf_Frs (textsOf s.data.toList))) := hown
      have hown3 := hown2.kept (grownBy_putObj' W.drew D (.deferred none)) (by
        rcases hob : v.ownBlock with _ | g
        · exact .inl rfl
        · refine .inr fun h => ?_
          rcases hown2.2 with ⟨rfl, _⟩ | ⟨g', cap, cur, rfl, _, hgg, _⟩
          · cases hob
          · cases hob; cases h
            rw [hgg] at hK'; cases hK')
      refine ⟨.tuple #[v, .int .i64 (endOf (frames s.data.toList) : Nat)], ?_, v, rfl, IsStrs.of_owns hown3, (hB.drew).trans (belowK_b (w := w) (Nat.le_refl _) W.drew D _ _ (by simp at hD; omega) hK' rfl rfl)⟩
      simp [results, Tryz.f28, go_sem]
  case stop =>
    rintro D c pre W _ _ h _
    exact h.elim
end Go.Proofs.YtalknbadakfppaaGreat
set_option linter.unusedVariables false
namespace Go.Proofs.YtalknbadakfppaaGreat
open Go.RowKit
attribute [local go_sem] Oper.semAt_some
theorem str_mk {x : ByteArray} {l : Txt} (h : x.data.toList = l) : x = strT l := by rw [← h, txt_strT]
theorem app_txt (x y : ByteArray) : (x ++ y).data.toList = x.data.toList ++ y.data.toList := by rw [ByteArray.data_append, Array.toList_append]
theorem take_txt (x : ByteArray) (k : Nat) : (x.extract 0 k).data.toList = x.data.toList.take k := by rw [ByteArray.data_extract]; simp
theorem drop_txt (x : ByteArray) (k : Nat) : (x.extract k x.size).data.toList = x.data.toList.drop k := by
  rw [ByteArray.data_extract, Array.toList_extract, List.extract_eq_take_drop]
  exact List.take_of_length_le (by rw [List.length_drop, dsize]; exact Nat.le_refl _)
theorem infoByte_Dkd : (Tryz.prog.info? 5).map (fun i => (i.zero, i.size, i.bytes)) = some (some (.int .u8 0), 1, 1) := by kernel_rfl
set_option maxRecDepth 100000 in
set_option maxHeartbeats 4000000 in
theorem rLay_any (s : ByteArray) (a : Nat) (t : ByteArray) (w : World) (hs : s.size ≤ 1000000) (ha : a ≤ 1000000) (ht : t.size ≤ 1000000) :
    Calls Tryz.prog 24 #[.string s, .int .i64 (a : Int), .string t] w fun e w' => e = .returned (.string (strT (layT s.data.toList a t.data.toList))) ∧ Below w.heap.size w w' := by
  have hadd : IntKind.i64.wrap ((a : Int) + (t.size : Int)) = (a : Int) + (t.size : Int) := IntWalk.i64_in _ (by omega)
  by_cases hlt : s.size < a
  · obtain ⟨n, hn⟩ : ∃ n, n = a - s.size := ⟨_, rfl⟩
    obtain ⟨i0, hi, hz0, hz1, hz2⟩ := info_parts infoByte_Dkd
    have hsub : IntKind.i64.wrap ((a : Int) - (s.size : Int)) = (n : Int) := by rw [IntWalk.i64_in _ (by omega)]; omega
    obtain ⟨M, hM⟩ : ∃ M, M = ((List.replicate n (0 : Int)).map (Value.int .u8)).toArray := ⟨_, rfl⟩
    have hmk : ∀ W : World, (Instr.makeSlice 74 (.int .i64 (n : Int)) (.int .i64 (n : Int))).run Tryz.prog W = .ok (.slice (some ⟨W.heap.size, 0, none⟩) n n) (W.alloc (.cells M 5)) := fun W => by
      have h := run_make (P := Tryz.prog) W 74 5 i0 (.int .u8 0) Tryz.underlying74 hi hz0 .i64 .i64 (n : Int) (n : Int) (by omega) (by omega) (by rw [hz2]; omega) (by omega)
      have e : madeCells (Value.int .u8 0).cells ((n : Int).toNat * i0.size) = M := by
        rw [hM, hz1]
        apply Array.toList_inj.1
        show (madeCells #[Value.int .u8 0] _).toList = _
        rw [toList_madeCells_one]; simp
      rw [e] at h
      simpa using h
    obtain ⟨z, hz⟩ : ∃ z : ByteArray, z = ⟨(List.replicate n (0 : UInt8)).toArray⟩ := ⟨_, rfl⟩
    have hcv : ∀ W : World, (convert 74 9 (.slice (some ⟨W.heap.size, 0, none⟩) n n)).run Tryz.prog (W.alloc (.cells M 5)) = .ok (.string z) (W.alloc (.cells M 5)) := fun W => by
      have h := conv_row (P := Tryz.prog) 74 5 9 Tryz.underlying74 Tryz.underlying5 Tryz.underlying9 (W.alloc (.cells M 5)) W.heap.size 5 (0, 0) (List.replicate n (0 : Int)) (by rw [← hM]; exact heap_alloc_new W _) n n (by simp)
      rw [h, hz]
      congr 2
      unfold strOfNums
      simp
    have hzs : z.size = n := by rw [hz, ← dsize]; simp
    have hzt : z.data.toList = List.replicate n 0 := by rw [hz]
    obtain ⟨p, hp⟩ : ∃ p : ByteArray, p = s ++ z := ⟨_, rfl⟩
    have hpt : p.data.toList = padT s.data.toList a := by rw [hp, app_txt, hzt]; unfold padT; rw [dsize, hn]
    have hps : p.size = a := by rw [← dsize, hpt, padT_len, dsize]; omega
    have hR : Hid ((s ++ z).extract 0 a ++ t = strT (layT s.data.toList a t.data.toList)) := Lib.hid (str_mk (by rw [app_txt, take_txt, ← hp, hpt, layT_over (by rw [dsize]; omega)]))
    have hb : decide ((s.size : Int) < (a : Int)) = true := decide_eq_true (by omega)
    have q0 : ¬ 9223372036854775807 < s.size + n := by omega
    have q1 : (s.size : Int) + (n : Int) ≤ (a : Int) + (t.size : Int) := by omega
    have q2 : ¬ (s.size : Int) + (n : Int) < (a : Int) := by omega
    have q3 : (a : Int) ≤ (s.size : Int) + (n : Int) := by omega
    have q4 : decide ((s.size : Int) + (n : Int) ≤ (a : Int) + (t.size : Int)) = true := decide_eq_true q1
    clear hM hn hi hz0 hz1 hz2 hz hzt hpt hp hps
    go_enter Tryz.func24, Tryz.ntmps24
    go_wp2_with (first | (refine wpList_convert rfl _ _ (.tmp 17) rfl _ _ _ rfl (hcv _) ?_))
    go_ret
    exact ⟨by rw [← hR.out]; rfl, (Below.refl _ _).alloc (Nat.le_refl _) _⟩
  · have hb : decide ((s.size : Int) < (a : Int)) = false := decide_eq_false (by omega)
    by_cases hle : s.size ≤ a + t.size
    · have hR : Hid (s.extract 0 a ++ t = strT (layT s.data.toList a t.data.toList)) := Lib.hid (str_mk (by rw [app_txt, take_txt, layT_over (by rw [dsize]; exact hle), padT_in (by rw [dsize]; omega)]))
      have q2 : ¬ (s.size : Int) < (a : Int) := by omega
      have q3 : (a : Int) ≤ (s.size : Int) := by omega
      have q4 : decide ((s.size : Int) ≤ (a : Int) + (t.size : Int)) = true := decide_eq_true (by omega)
      have q5 : (s.size : Int) ≤ (a : Int) + (t.size : Int) := by omega
      have q6 : a ≤ s.size := by omega
      have q0 : ¬ 9223372036854775807 < a + t.size := by omega
      go_enter Tryz.func24, Tryz.ntmps24
      go_wp2
      go_ret
      exact ⟨by rw [← hR.out]; rfl, Below.refl _ _⟩
    · obtain ⟨c, hc⟩ : ∃ c, c = a + t.size := ⟨_, rfl⟩
      have hadd2 : IntKind.i64.wrap ((a : Int) + (t.size : Int)) = (c : Int) := by rw [hadd]; omega
      have hcs : a ≤ s.size := by omega
      have hcs2 : c ≤ s.size := by omega
      have hR : Hid ((s.extract 0 a ++ t) ++ s.extract c s.size = strT (layT s.data.toList a t.data.toList)) := Lib.hid (str_mk (by rw [app_txt, app_txt, take_txt, drop_txt, layT_in (by rw [dsize]; exact hcs), dsize, hc]))
      have q1 : ¬ (s.size : Int) < (a : Int) := by omega
      have q2 : (a : Int) ≤ (s.size : Int) := by omega
      have q3 : ¬ (s.size : Int) ≤ (c : Int) := by omega
      have q5 : (c : Int) ≤ (s.size : Int) := by omega
      have q7 : ¬ (s.size : Int) < (c : Int) := by omega
      have q4 : decide ((s.size : Int) ≤ (c : Int)) = false := decide_eq_false (by omega)
      have q0 : ¬ 9223372036854775807 < a + t.size := by omega
      have q6 : ¬ 9223372036854775807 < a + t.size + (s.size - c) := by omega
      clear hle hadd hc
      go_enter Tryz.func24, Tryz.ntmps24
      go_wp2_with fail
      go_quiet (fail)
      go_wp2
      go_ret
      exact ⟨by rw [← hR.out]; rfl, below_drewN (Below.refl _ _) _⟩
theorem seen_step {s : Txt} {P : List Dop} {k : Nat} (h : k < P.length) : seenT s (P.take (k + 1)) = layT (seenT s (P.take k)) P[k].a P[k].t := by
  rw [List.take_succ_eq_append_getElem h, seenT_one]
theorem opOk_at {o : Dop} (h : opOk o) : o.at_ = (o.a : Int) := by have := h.1; unfold Dop.a; omega
set_option maxRecDepth 100000 in
set_option maxHeartbeats 4000000 in
theorem rSeen_any (f : Dfl) (u : Value) (w : World) (h : IsOps w u f.ops) (hd : f.d.size ≤ 262144) (ho : ∀ o ∈ f.ops, opOk o) :
    Calls Tryz.prog 31 #[.agg #[.string f.n, .string f.d, u]] w fun e w' => e = .returned (.string (strT (seenF f))) ∧ Below w.heap.size w w' := by
  obtain ⟨V, hV⟩ : ∃ V, V = w.alloc (.cells #[.string f.n, .string f.d, u] 56) := ⟨_, rfl⟩
  have hbV : Below w.heap.size w V := by rw [hV]; exact (Below.refl _ _).alloc (Nat.le_refl _) _
  have hR : Row V w.heap.size #[.string f.n, .string f.d, u] 56 := by rw [hV]; exact Row.made _ _ _
  have HV := Lib.hid hV; have HI := Lib.hid (h.stays hbV); have HO := Lib.hid ho; have HB0 := Lib.hid hbV
  have HM : Hid (∀ k, (seenT f.d.data.toList (f.ops.take k)).length ≤ 262144) := Lib.hid (fun k => seenT_max (by rw [dsize]; exact hd) fun o hm => opOk_len (ho o (List.mem_of_mem_take hm)))
  obtain ⟨hml, a, cap, hu, _, _⟩ := h
  obtain ⟨z, hz⟩ : ∃ z, z = f.ops.length := ⟨_, rfl⟩
  rw [← hz] at hu
  subst hu
  have HR := Lib.hid hR; have HZ := Lib.hid hz
  have p1 := hR.cell 1; have p2 := hR.cell 2
  simp only [List.getElem?_toArray, List.getElem?_cons_zero, List.getElem?_cons_succ] at p1 p2
  have hmz : z ≤ 9223372036854775807 := by unfold maxLen at hml; omega
  clear hV hbV hR ho hd hml hz
  go_enter Tryz.func31, Tryz.ntmps31
  go_wp2_with fail
  rw [← HV.out]
  go_wp2_with fail
  go_loopw [3, 4] (fun s i wr => ∃ (k : Nat) (x : ByteArray), k ≤ z ∧ i = .int .i64 k ∧ s = .string x ∧ x = strT (seenT f.d.data.toList (f.ops.take k)) ∧ Below V.heap.size V wr) (fun _ i _ => z - (intOf i).toNat)
  case atStart => exact ⟨0, f.d, Nat.zero_le _, rfl, rfl, (txt_strT _).symm, Below.refl _ _⟩
  case round =>
    obtain ⟨k, x, hk, rfl, rfl, hx, hB⟩ := hrel
    clear p1 p2
    have hR2 := HR.out.step hB
    have p2 := hR2.cell 2
    simp only [List.getElem?_toArray, List.getElem?_cons_zero, List.getElem?_cons_succ] at p2
    have HB := Lib.hid hB
    have HX := Lib.hid hx
    by_cases hlt : k < z
    · have hko : k < f.ops.length := by have := HZ.out; omega
      obtain ⟨_, _, _, hev, _, hc⟩ := HI.out.stays hB
      rw [← HZ.out] at hev
      cases hev
      obtain ⟨b1, o1, rfl, hbl, g1⟩ := hc (by omega)
      obtain ⟨q1, q2⟩ := g1 k hko
      have hop := HO.out _ (List.getElem_mem hko)
      have hst := seen_step (s := f.d.data.toList) hko
      obtain ⟨o, hoo⟩ : ∃ o, o = f.ops[k] := ⟨_, rfl⟩
      rw [← hoo] at q1 q2 hop hst
      rw [opOk_at hop] at q1
      have hln := opOk_len hop
      have hds : o.d.size ≤ 262144 := by unfold Dop.t at hln; rw [dsize] at hln; omega
      obtain ⟨na, hna⟩ : ∃ na, na = o.a := ⟨_, rfl⟩
      rw [← hna] at q1 hst hln
      have hxs : x.size ≤ 262144 := by rw [hx, strT_size]; exact HM.out k
      have CL := fun W => rLay_any x na o.d W (by omega) (by omega) (by omega)
      obtain ⟨y, hy⟩ : ∃ y, y = strT (layT x.data.toList na o.d.data.toList) := ⟨_, rfl⟩
      rw [← hy] at CL
      have HY : Hid (y = strT (seenT f.d.data.toList (f.ops.take (k + 1)))) := Lib.hid (by rw [hy, hst, hx, strT_txt]; rfl)
      have HC := Lib.hid CL
      have k0 := fun d os => cell_regrown p2 d os
      have k1 := fun d os => cell_regrown q1 d os
      have k2 := fun d os => cell_regrown q2 d os
      have hbk : decide ((k : Int) < (z : Int)) = true := by simpa using (show (k : Int) < z by omega)
      clear g1 hc hoo hop hst hln hds hna hxs hy CL hx hB hR2 hko
      go_wp2_with fail
      refine wp_region_quiet_below (by kernel_rfl) (by kernel_rfl) ?_
      repeat (first | go_big_quiet_step (exact Calls.regrown_of (HC.out _)) | quiet_step (exact Calls.regrown_of (HC.out _)))
      refine wpQuiet_nil ?_
      intro wq hwq
      have hbq : Below wr.heap.size wr wq := by obtain ⟨p, rfl⟩ := hwq; exact below_regrown _ _ _
      clear hwq k0 k1 k2 q1 q2 p2
      have HBQ := Lib.hid (below_step HB.out hbq)
      clear hbq
      go_wp2
      go_roundw
      case rel => exact ⟨k + 1, y, by omega, by go_num, rfl, HY.out, HBQ.out⟩
      case measure => simp [intOf]; omega
    · obtain rfl : k = z := by omega
      have hbk : decide ((k : Int) < (k : Int)) = false := by simp
      have HE : Hid (x = strT (seenF f)) := Lib.hid (by rw [hx, List.take_of_length_le (by have := HZ.out; omega)]; rfl)
      clear hx
      go_wp2
      go_ret
      exact ⟨by rw [← HE.out]; rfl, below_step HB0.out hB⟩
theorem beq_str {x y : ByteArray} (h : x = y) : (x.toList == y.toList) = true := by rw [h]; simp
theorem bne_str {x y : ByteArray} (h : x ≠ y) : (x.toList == y.toList) = false := by
  rw [Bool.eq_false_iff]
  intro e
  have := eq_of_beq e
  rw [Lib.toList_data, Lib.toList_data] at this
  exact h (ByteArray.ext (Array.toList_inj.1 this))
theorem str_txt {x y : ByteArray} : x = y ↔ x.data.toList = y.data.toList := ⟨fun h => by rw [h], fun h => ByteArray.ext (Array.toList_inj.1 h)⟩
def PlaceR (L : List Dfl) (t : Txt) (r : Int) : Prop := (∃ k, ∃ h : k < L.length, r = (k : Int) ∧ L[k].t = t ∧ getF L t = some L[k]) ∨ (r = -1 ∧ getF L t = none)
theorem getF_first : ∀ {L : List Dfl} {t : Txt} {k : Nat} (h : k < L.length), L[k].t = t → (∀ j (hj : j < L.length), j < k → L[j].t ≠ t) → getF L t = some L[k]
  | [], _, _, h, _, _ => absurd h (by simp)
  | x :: L, t, 0, h, e, _ => by
    unfold getF
    rw [List.find?_cons_of_pos (by simpa using e)]; rfl
  | x :: L, t, k + 1, h, e, hf => by
    have h0 := hf 0 (by simp) (by omega)
    have ih := getF_first (L := L) (t := t) (k := k) (by simpa using h) (by simpa using e) fun j hj hjk => hf (j + 1) (by simpa using hj) (by omega)
    unfold getF at ih ⊢
    rw [List.find?_cons_of_neg (by simpa using h0), ih]; rfl
theorem getF_past {L : List Dfl} {t : Txt} (hf : ∀ j (hj : j < L.length), L[j].t ≠ t) : getF L t = none :=
  getF_none.2 fun f hm => by
    obtain ⟨j, hj, rfl⟩ := List.mem_iff_getElem.1 hm
    exact hf j hj
set_option maxRecDepth 100000 in
set_option maxHeartbeats 4000000 in
theorem rPlace_any (d : Dsk) (v : Value) (s : ByteArray) (w : World) (h : IsDfs w v d.fs) :
    Calls Tryz.prog 30 #[dskV v d, .string s] w fun e w' => ∃ r, e = .returned (.int .i64 r) ∧ PlaceR d.fs s.data.toList r ∧ Below w.heap.size w w' := by
  obtain ⟨V, hV⟩ : ∃ V, V = w.alloc (.cells #[v, .bool d.off, .int .i64 d.fuse] 28) := ⟨_, rfl⟩
  have hbV : Below w.heap.size w V := by rw [hV]; exact (Below.refl _ _).alloc (Nat.le_refl _) _
  have hR : Row V w.heap.size #[v, .bool d.off, .int .i64 d.fuse] 28 := by rw [hV]; exact Row.made _ _ _
  have HV := Lib.hid hV; have HI := Lib.hid (h.stays hbV); have HB0 := Lib.hid hbV
  obtain ⟨hml, a, cap, hu, _, _⟩ := h
  obtain ⟨z, hz⟩ : ∃ z, z = d.fs.length := ⟨_, rfl⟩
  rw [← hz] at hu
  subst hu
  have HR := Lib.hid hR; have HZ := Lib.hid hz
  have hmz : z ≤ 9223372036854775807 := by unfold maxLen at hml; omega
  unfold dskV
  clear hV hbV hR hml hz
  go_enter Tryz.func30, Tryz.ntmps30
  go_wp2_with fail
  rw [← HV.out]
  go_loopw [5] (fun i wr => ∃ k : Nat, k ≤ z ∧ i = .int .i64 k ∧ (∀ j (hj : j < d.fs.length), j < k → d.fs[j].t ≠ s.data.toList) ∧ Below V.heap.size V wr) (fun i _ => z - (intOf i).toNat)
  case atStart => exact ⟨0, Nat.zero_le _, rfl, fun j hj h0 => absurd h0 (by omega), Below.refl _ _⟩
  case round =>
    obtain ⟨k, hk, rfl, hf, hB⟩ := hrel
    have HF := Lib.hid hf
    have hR2 := HR.out.step hB
    have p0 := hR2.cell 0
    simp only [List.getElem?_toArray, List.getElem?_cons_zero] at p0
    have HB := Lib.hid hB
    by_cases hlt : k < z
    · have hko : k < d.fs.length := by have := HZ.out; omega
      obtain ⟨_, _, _, hev, _, hc⟩ := HI.out.stays hB
      rw [← HZ.out] at hev
      cases hev
      obtain ⟨b1, o1, rfl, hbl, g1⟩ := hc (by omega)
      obtain ⟨_, q0, _, _, _⟩ := g1 k hko
      have HG := Lib.hid (fun (e : (d.fs[k]'hko).t = s.data.toList) => getF_first hko e (fun j hj hjk => HF.out j hj hjk))
      have HKO := Lib.hid hko
      obtain ⟨x, hx⟩ : ∃ x, x = d.fs[k]'hko := ⟨_, rfl⟩
      rw [← hx] at q0
      have HXX := Lib.hid hx
      have hbk : decide ((k : Int) < (z : Int)) = true := by simpa using (show (k : Int) < z by omega)
      clear g1 hc hx hf hR2 hB
      by_cases he : x.n = s
      · have e1 := beq_str he
        have HP : Hid (PlaceR d.fs s.data.toList (k : Int)) := Lib.hid (by
          have e2 : d.fs[k]'(HKO.out) = x := HXX.out.symm
          have e3 : (d.fs[k]'(HKO.out)).t = s.data.toList := by rw [e2]; exact str_txt.1 he
          exact .inl ⟨k, HKO.out, rfl, e3, HG.out e3⟩)
        clear he
        go_wp2
        go_ret
        exact ⟨_, rfl, HP.out, below_step HB0.out HB.out⟩
      · have e1 := bne_str he
        have HN : Hid (∀ j (hj : j < d.fs.length), j < k + 1 → d.fs[j].t ≠ s.data.toList) := Lib.hid (fun j hj hjk => by
          rcases Nat.lt_or_ge j k with hl | hl
          · exact HF.out j hj hl
          · obtain rfl : j = k := by omega
            have e2 : d.fs[j]'hj = x := HXX.out.symm
            rw [e2]; exact fun c => he (str_txt.2 c))
        clear he
        go_wp2
        go_roundw
        case rel => exact ⟨k + 1, by omega, by go_num, HN.out, HB.out⟩
        case measure => simp [intOf]; omega
    · obtain rfl : k = z := by omega
      have hbk : decide ((k : Int) < (k : Int)) = false := by simp
      have HE : Hid (getF d.fs s.data.toList = none) := Lib.hid (getF_past fun j hj => HF.out j hj (by rw [HZ.out]; exact hj))
      clear hf hR2
      go_wp2
      go_ret
      exact ⟨-1, rfl, .inr ⟨rfl, HE.out⟩, below_step HB0.out HB.out⟩
theorem readD_some {d : Dsk} {t : Txt} {f : Dfl} (h : getF d.fs t = some f) : readD d t = (seenF f, true) := by unfold readD; rw [h]
theorem readD_none {d : Dsk} {t : Txt} (h : getF d.fs t = none) : readD d t = ([], false) := by unfold readD; rw [h]
set_option maxRecDepth 100000 in
set_option maxHeartbeats 4000000 in
theorem rReadD_any (d : Dsk) (v : Value) (s : ByteArray) (w : World) (h : IsDfs w v d.fs) (hf : ∀ f ∈ d.fs, f.d.size ≤ 262144 ∧ ∀ o ∈ f.ops, opOk o) :
    Calls Tryz.prog 14 #[dskV v d, .string s] w fun e w' => e = .returned (.tuple #[.string (strT (readD d s.data.toList).1), .bool (readD d s.data.toList).2]) ∧ Below w.heap.size w w' := by
  obtain ⟨V, hV⟩ : ∃ V, V = w.alloc (.cells #[v, .bool d.off, .int .i64 d.fuse] 28) := ⟨_, rfl⟩
  have hbV : Below w.heap.size w V := by rw [hV]; exact (Below.refl _ _).alloc (Nat.le_refl _) _
  have hR : Row V w.heap.size #[v, .bool d.off, .int .i64 d.fuse] 28 := by rw [hV]; exact Row.made _ _ _
  have HV := Lib.hid hV; have HI := Lib.hid (h.stays hbV); have HB0 := Lib.hid hbV; have HF := Lib.hid hf
  have CP := rPlace_any d v s V HI.out
  obtain ⟨hml, a, cap, hu, _, _⟩ := h
  obtain ⟨z, hz⟩ : ∃ z, z = d.fs.length := ⟨_, rfl⟩
  rw [← hz] at hu
  subst hu
  have HR := Lib.hid hR; have HZ := Lib.hid hz
  have hmz : z ≤ 9223372036854775807 := by unfold maxLen at hml; omega
  have p0 := hR.cell 0; have p1 := hR.cell 1; have p2 := hR.cell 2
  simp only [List.getElem?_toArray, List.getElem?_cons_zero, List.getElem?_cons_succ] at p0 p1 p2
  unfold dskV at CP ⊢
  have HCP := Lib.hid CP
  clear hV hbV hR hml hz hf CP
  go_enter Tryz.func14, Tryz.ntmps14
  go_wp2_with fail
  rw [← HV.out]
  go_wp2_with fail
  refine HCP.out.mono ?_
  rintro e w2 ⟨r, rfl, hr, hb2⟩
  have HB2 := Lib.hid hb2
  have hR2 := HR.out.step hb2
  have r0 := hR2.cell 0
  simp only [List.getElem?_toArray, List.getElem?_cons_zero] at r0
  clear p0 p1 p2
  rcases hr with ⟨k, hk, rfl, ht, hg⟩ | ⟨rfl, hg⟩
  · obtain ⟨_, _, _, hev, _, hc⟩ := HI.out.stays hb2
    rw [← HZ.out] at hev
    cases hev
    obtain ⟨b1, o1, rfl, hbl, g1⟩ := hc (by have := HZ.out; omega)
    obtain ⟨u, q0, q1, q2, hu⟩ := g1 k hk
    obtain ⟨hf1, hf2⟩ := HF.out _ (List.getElem_mem hk)
    have CS := rSeen_any (d.fs[k]'hk) u w2 hu hf1 hf2
    have hrd := readD_some hg
    obtain ⟨f, hfd⟩ : ∃ f, f = d.fs[k]'hk := ⟨_, rfl⟩
    rw [← hfd] at q0 q1 CS hrd
    have HCS := Lib.hid CS; have HRD := Lib.hid hrd
    have hkz : k < z := by have := HZ.out; omega
    have hb : decide ((k : Int) < 0) = false := decide_eq_false (by omega)
    clear g1 hc hu hf1 hf2 CS hrd hfd hg ht hb2 hR2
    go_wp2_with fail
    refine HCS.out.mono ?_
    rintro e w3 ⟨rfl, hb3⟩
    have HB3 := Lib.hid (below_step HB2.out hb3)
    clear hb3
    go_wp2
    exact bodyPost_ret (v := .tuple #[.string (strT (seenF f)), .bool true]) (by simp [results, Tryz.results14, go_sem]) rfl ⟨by rw [HRD.out], below_step HB0.out HB3.out⟩
  · have hrd := Lib.hid (readD_none hg)
    clear hg hb2 hR2
    go_wp2
    exact bodyPost_ret (v := .tuple #[.string ⟨#[]⟩, .bool false]) (by simp [results, Tryz.results14, go_sem]) rfl ⟨by rw [hrd.out]; rfl, below_step HB0.out HB2.out⟩
set_option maxRecDepth 100000 in
set_option maxHeartbeats 4000000 in
theorem rPower_any (d : Dsk) (a : Option Addr) (z c : Nat) (w : World) (h1 : -1 ≤ d.fuse) (h2 : d.fuse ≤ 1048576) :
    Calls Tryz.prog 33 #[dskV (.slice a z c) d] w fun e w' => e = .returned (.tuple #[dskV (.slice a z c) (powD d).1, .int .i64 (powD d).2]) ∧ Below w.heap.size w w' := by
  unfold dskV
  by_cases h0 : d.fuse = 0
  · have e0 : (d.fuse == 0) = true := by rw [h0]; rfl
    have HP : Hid (powD d = (⟨d.fs, true, -1⟩, 13)) := Lib.hid (if_pos h0)
    go_enter Tryz.func33, Tryz.ntmps33
    go_wp2
    exact bodyPost_ret (v := .tuple #[.agg #[.slice a z c, .bool true, .int .i64 (-1)], .int .i64 13]) (by simp [results, Tryz.results33, go_sem]) rfl ⟨by rw [HP.out], ((Below.refl _ _).alloc (Nat.le_refl _) _).alloc (by simp) _⟩
  · have e0 : (d.fuse == 0) = false := by simpa using h0
    by_cases h3 : 0 < d.fuse
    · have e3 : decide (0 < d.fuse) = true := decide_eq_true h3
      have HP : Hid (powD d = (⟨d.fs, d.off, d.fuse - 1⟩, 0)) := Lib.hid (by unfold powD; rw [if_neg h0, if_pos h3])
      have hsub : IntKind.i64.wrap (d.fuse - 1) = d.fuse - 1 := IntWalk.i64_in _ (by omega)
      go_enter Tryz.func33, Tryz.ntmps33
      go_wp2
      exact bodyPost_ret (v := .tuple #[.agg #[.slice a z c, .bool d.off, .int .i64 (d.fuse - 1)], .int .i64 0]) (by simp [results, Tryz.results33, go_sem]) rfl ⟨by rw [HP.out], ((Below.refl _ _).alloc (Nat.le_refl _) _).alloc (by simp) _⟩
    · have e3 : decide (0 < d.fuse) = false := decide_eq_false h3
      have HP : Hid (powD d = (d, 0)) := Lib.hid (by unfold powD; rw [if_neg h0, if_neg h3])
      go_enter Tryz.func33, Tryz.ntmps33
      go_wp2
      exact bodyPost_ret (v := .tuple #[.agg #[.slice a z c, .bool d.off, .int .i64 (d.fuse)], .int .i64 0]) (by simp [results, Tryz.results33, go_sem]) rfl ⟨by rw [HP.out], ((Below.refl _ _).alloc (Nat.le_refl _) _).alloc (by simp) _⟩
theorem ownD_low {B B' : Nat} {w : World} {v : Value} {L : List Dfr} (h : OwnD B w v L) (hb : B' ≤ B) : OwnD B' w v L := by
  refine ⟨h.1, ?_⟩
  rcases h.2 with h2 | ⟨g, cap, cur, h3, h4, h5⟩
  · exact .inl h2
  · exact .inr ⟨g, cap, cur, h3, Nat.le_trans hb h4, h5⟩
theorem withF_app {f : Dfl} {Q : List Dfl} : ∀ {P : List Dfl}, (∀ x ∈ P, x.t < f.t) → withF (P ++ Q) f = P ++ withF Q f
  | [], _ => rfl
  | y :: P, h => by
    show (if y.t < f.t then y :: withF (P ++ Q) f else _) = _
    rw [if_pos (h y (List.mem_cons_self ..)), withF_app fun x hx => h x (List.mem_cons_of_mem _ hx)]; rfl
theorem withF_past {f x : Dfl} : ∀ {P : List Dfl}, (∃ y ∈ P, ¬ y.t < f.t) → withF (P ++ [x]) f = withF P f ++ [x]
  | [], h => by obtain ⟨_, h, _⟩ := h; cases h
  | y :: P, h => by
    show (if y.t < f.t then y :: withF (P ++ [x]) f else if y.t = f.t then f :: (P ++ [x]) else f :: y :: (P ++ [x])) = (if y.t < f.t then y :: withF P f else if y.t = f.t then f :: P else f :: y :: P) ++ [x]
    by_cases h1 : y.t < f.t
    · rw [if_pos h1, if_pos h1, withF_past (by
        obtain ⟨u, hu, hn⟩ := h
        rcases List.mem_cons.1 hu with rfl | hu
        · exact absurd h1 hn
        · exact ⟨u, hu, hn⟩)]; rfl
    · rw [if_neg h1, if_neg h1]
      by_cases h2 : y.t = f.t
      · rw [if_pos h2, if_pos h2]; rfl
      · rw [if_neg h2, if_neg h2]; rfl
structure WithI (L : List Dfl) (f : Dfl) (k : Nat) (dn : Bool) (M : List Dfl) : Prop where
  no : dn = false → M = L.take k ∧ ∀ x ∈ L.take k, x.t < f.t
  yes : dn = true → M = withF (L.take k) f ∧ ∃ y ∈ L.take k, ¬ y.t < f.t
theorem withI_zero (L : List Dfl) (f : Dfl) : WithI L f 0 false [] := ⟨fun _ => ⟨rfl, fun x h => (by cases h)⟩, fun h => (by cases h)⟩
section
variable {L : List Dfl} {f : Dfl} {k : Nat} {M : List Dfl}
theorem withI_lt (h : WithI L f k false M) (hk : k < L.length) (hx : L[k].t < f.t) : WithI L f (k + 1) false (M ++ [L[k]]) := by
  obtain ⟨h1, h2⟩ := h.no rfl
  refine ⟨fun _ => ⟨by rw [List.take_succ_eq_append_getElem hk, h1], fun x hm => ?_⟩, fun e => (by cases e)⟩
  rw [List.take_succ_eq_append_getElem hk] at hm
  rcases List.mem_append.1 hm with hm | hm
  · exact h2 x hm
  · rw [List.mem_singleton.1 hm]; exact hx
theorem withI_eq (h : WithI L f k false M) (hk : k < L.length) (hx : L[k].t = f.t) : WithI L f (k + 1) true (M ++ [f]) := by
  obtain ⟨h1, h2⟩ := h.no rfl
  have hn : ¬ L[k].t < f.t := by rw [hx]; exact t_irrefl _
  refine ⟨fun e => (by cases e), fun _ => ⟨?_, L[k], by rw [List.take_succ_eq_append_getElem hk]; exact List.mem_append_right _ (List.mem_singleton.2 rfl), hn⟩⟩
  rw [List.take_succ_eq_append_getElem hk, withF_app h2, h1]
  show _ = _ ++ (if L[k].t < f.t then _ else if L[k].t = f.t then f :: [] else _)
  rw [if_neg hn, if_pos hx]
theorem withI_gt (h : WithI L f k false M) (hk : k < L.length) (hx : f.t < L[k].t) : WithI L f (k + 1) true (M ++ [f] ++ [L[k]]) := by
  obtain ⟨h1, h2⟩ := h.no rfl
  have hn : ¬ L[k].t < f.t := t_asymm hx
  have hne : ¬ L[k].t = f.t := fun e => t_irrefl f.t (by rwa [e] at hx)
  refine ⟨fun e => (by cases e), fun _ => ⟨?_, L[k], by rw [List.take_succ_eq_append_getElem hk]; exact List.mem_append_right _ (List.mem_singleton.2 rfl), hn⟩⟩
  rw [List.take_succ_eq_append_getElem hk, withF_app h2, h1]
  show _ = _ ++ (if L[k].t < f.t then _ else if L[k].t = f.t then f :: [] else f :: [L[k]])
  rw [if_neg hn, if_neg hne]; simp
theorem withI_past (h : WithI L f k true M) (hL : L.Pairwise fun x y => x.t < y.t) (hk : k < L.length) : WithI L f (k + 1) true (M ++ [L[k]]) ∧ f.t < L[k].t := by
  obtain ⟨h1, y, hy, hn⟩ := h.yes rfl
  refine ⟨⟨fun e => (by cases e), fun _ => ⟨?_, y, by rw [List.take_succ_eq_append_getElem hk]; exact List.mem_append_left _ hy, hn⟩⟩, ?_⟩
  · rw [List.take_succ_eq_append_getElem hk, withF_past ⟨y, hy, hn⟩, h1]
  · obtain ⟨j, hj, e⟩ := List.mem_iff_getElem.1 hy
    rw [List.length_take] at hj
    rw [List.getElem_take] at e
    have hlt := List.pairwise_iff_getElem.1 hL j k (by omega) hk (by omega)
    rw [e] at hlt
    rcases Classical.em (y.t = f.t) with e2 | e2
    · rwa [e2] at hlt
    · exact t_trans (Classical.byContradiction fun c => e2 (t_tri _ _ hn c)) hlt
theorem withI_done (h : WithI L f k true M) (hk : L.length ≤ k) : M = withF L f := by
  obtain ⟨h1, _⟩ := h.yes rfl
  rw [h1, List.take_of_length_le hk]
theorem withI_last (h : WithI L f k false M) (hk : L.length ≤ k) : M ++ [f] = withF L f := by
  obtain ⟨h1, h2⟩ := h.no rfl
  rw [List.take_of_length_le hk] at h1 h2
  have := withF_app (Q := []) h2
  rw [List.append_nil] at this
  rw [this, h1]; rfl
end
set_option maxRecDepth 100000 in
set_option maxHeartbeats 8000000 in
theorem rWith_any (St : Dfr → Dfl → Prop) (hn : ∀ r x, St r x → r.n = x.n) (L : List Dfl) (v : Value) (f : Dfl) (rf : Dfr) (w : World) (h : IsDfsS St w v L) (hL : L.Pairwise fun x y => x.t < y.t) (hl : L.length ≤ 1000) (hf : St rf f) :
    Calls Tryz.prog 34 #[v, .agg #[.string rf.n, .string rf.d, .slice rf.a rf.z rf.c]] w (RetFs St (withF L f) w) := by
  obtain ⟨V, hV⟩ : ∃ V, V = w.alloc (.cells #[.string rf.n, .string rf.d, .slice rf.a rf.z rf.c] 56) := ⟨_, rfl⟩
  have hbV : Below w.heap.size w V := by rw [hV]; exact (Below.refl _ _).alloc (Nat.le_refl _) _
  have hR : Row V w.heap.size #[.string rf.n, .string rf.d, .slice rf.a rf.z rf.c] 56 := by rw [hV]; exact Row.made _ _ _
  have HV := Lib.hid hV; have HB0 := Lib.hid hbV; have HL := Lib.hid hL
  have HRF := Lib.hid hf; have HN := Lib.hid hn
  have HBOX : Hid (∀ W, Below V.heap.size V W → W.cell? ⟨w.heap.size, 0, none⟩ = some (.string rf.n) ∧ W.cell? ⟨w.heap.size, 1, none⟩ = some (.string rf.d) ∧ W.cell? ⟨w.heap.size, 2, none⟩ = some (.slice rf.a rf.z rf.c)) := Lib.hid (fun W hW => by
    have hR2 := hR.step hW
    have p0 := hR2.cell 0; have p1 := hR2.cell 1; have p2 := hR2.cell 2
    simp only [List.getElem?_toArray, List.getElem?_cons_zero, List.getElem?_cons_succ] at p0 p1 p2
    exact ⟨p0, p1, p2⟩)
  obtain ⟨hml, a, cap, hu, _, hc0⟩ := h.stays hbV
  obtain ⟨z, hz⟩ : ∃ z, z = L.length := ⟨_, rfl⟩
  rw [← hz] at hu hl
  subst hu
  have HZ := Lib.hid hz; have HC := Lib.hid hc0
  have hmz : z ≤ 9223372036854775807 := by omega
  clear hml hz hc0 hV hbV hR hL hf h hn
  go_enter Tryz.func34, Tryz.ntmps34
  go_wp2_with fail
  rw [← HV.out]
  go_loopw [5, 6, 7] (fun o c i wr => ∃ (k : Nat) (u : Value) (dn : Bool) (R : List Dfr) (M : List Dfl), k ≤ z ∧ i = .int .i64 k ∧ c = .bool dn ∧ u = o ∧ R.length ≤ k + 1 ∧ (dn = false → R.length ≤ k) ∧ OwnD V.heap.size wr u R ∧ RowsS St R M ∧ WithI L f k dn M ∧ Below V.heap.size V wr) (fun _ _ i _ => z - (intOf i).toNat)
  case atStart => exact ⟨0, _, false, [], [], Nat.zero_le _, rfl, rfl, rfl, by simp, fun _ => Nat.le_refl _, ownD_nil _ _, trivial, withI_zero _ _, Below.refl _ _⟩
  case round =>
    obtain ⟨k, u, dn, R, M, hk, rfl, rfl, rfl, hRk, hRf, hO, hR, hI, hB⟩ := hrel
    have HO := Lib.hid hO; have HR := Lib.hid hR; have HB := Lib.hid hB; have HI := Lib.hid hI
    clear hO hR hI
    obtain ⟨p0, p1, p2⟩ := HBOX.out _ hB
    by_cases hlt : k < z
    · have hko : k < L.length := by have := HZ.out; omega
      obtain ⟨b1, o1, rfl, hbl, g1⟩ := HC.out (by omega)
      obtain ⟨r, hr, c0, c1, c2⟩ := g1 k hko
      have HEL : Hid (∀ W, Below V.heap.size V W → W.cell? ⟨b1, o1 + k * 3, none⟩ = some (.string r.n) ∧ W.cell? ⟨b1, o1 + k * 3 + 1, none⟩ = some (.string r.d) ∧ W.cell? ⟨b1, o1 + k * 3 + 2, none⟩ = some (.slice r.a r.z r.c)) := Lib.hid (fun W hW =>
        ⟨(hW.cell (p := ⟨b1, o1 + k * 3, none⟩) hbl).trans c0, (hW.cell (p := ⟨b1, o1 + k * 3 + 1, none⟩) hbl).trans c1, (hW.cell (p := ⟨b1, o1 + k * 3 + 2, none⟩) hbl).trans c2⟩)
      obtain ⟨q0, q1, q2⟩ := HEL.out _ hB
      have hrt : r.n.data.toList = (L[k]'hko).t := by rw [HN.out _ _ hr]; rfl
      have hft : rf.n.data.toList = f.t := by rw [HN.out _ _ HRF.out]; rfl
      have HLT := Lib.hid (fun (hd : WithI L f k false M) (hx : (L[k]'hko).t < f.t) => withI_lt hd hko hx)
      have HEQ := Lib.hid (fun (hd : WithI L f k false M) (hx : (L[k]'hko).t = f.t) => withI_eq hd hko hx)
      have HGT := Lib.hid (fun (hd : WithI L f k false M) (hx : f.t < (L[k]'hko).t) => withI_gt hd hko hx)
      have HPA := Lib.hid (fun (hd : WithI L f k true M) => withI_past hd HL.out hko)
      obtain ⟨x, hx⟩ : ∃ x, x = L[k]'hko := ⟨_, rfl⟩
      rw [← hx] at hr hrt HLT HEQ HGT HPA
      have HRW := Lib.hid hr
      have hbk : decide ((k : Int) < (z : Int)) = true := by simpa using (show (k : Int) < z by omega)
      have hRl : R.length ≤ 1000000 := by omega
      have hRl2 : ∀ y : Dfr, (R ++ [y]).length ≤ 1000000 := fun y => by simp; omega
      have HRL := Lib.hid hRl; have HRL2 := Lib.hid hRl2
      clear g1 hr c0 c1 c2 hx hRl hRl2
      cases dn with
      | true =>
        obtain ⟨hi2, hgt⟩ := HPA.out HI.out
        have HI2 := Lib.hid hi2
        have hne : r.n ≠ rf.n := fun e => t_irrefl f.t (by rw [str_txt, hrt, hft] at e; rwa [e] at hgt)
        have e0 := bne_str hne
        have e1 : (r.n.toList != rf.n.toList) = true := by simp [bne, e0]
        go_wp2_with fail
        go_quiet (fail)
        obtain ⟨X1, hX1⟩ : ∃ X, X = wr.drewN nq := ⟨_, rfl⟩
        rw [← hX1]
        have hx1 : Below wr.heap.size wr X1 := by rw [hX1]; exact below_drewN (Below.refl _ _) _
        have HO1 := Lib.hid (HO.out.stays hx1); have HB1 := Lib.hid (below_step HB.out hx1)
        clear hX1 hx1 p0 p1 p2 q0 q1 q2
        obtain ⟨p0, p1, p2⟩ := HBOX.out _ HB1.out
        obtain ⟨q0, q1, q2⟩ := HEL.out _ HB1.out
        go_wp2_with fail
        go_quiet (fail)
        obtain ⟨X3, hX3⟩ : ∃ X, X = X1.drewN nq := ⟨_, rfl⟩
        rw [← hX3]
        have hx3 : Below X1.heap.size X1 X3 := by rw [hX3]; exact below_drewN (Below.refl _ _) _
        have HO3 := Lib.hid (HO1.out.stays hx3); have HB3 := Lib.hid (below_step HB1.out hx3)
        clear hX3 hx3 p0 p1 p2 q0 q1 q2
        obtain ⟨p0, p1, p2⟩ := HBOX.out _ HB3.out
        obtain ⟨q0, q1, q2⟩ := HEL.out _ HB3.out
        go_wp2_with (at_builtin; refine wpList_append_dfr (y := r) rfl _ _ rfl HO3.out HB3.out.size rfl rfl HRL.out ?_)
        intro v4 X4 ho4 hb4
        have HO4 := Lib.hid ho4; have HB4 := Lib.hid (HB3.out.trans hb4)
        clear ho4 hb4 p0 p1 p2 q0 q1 q2
        go_wp2
        go_roundw
        case rel => exact ⟨k + 1, _, true, R ++ [r], _, by omega, by go_num, rfl, rfl, by simp; omega, fun e => (by cases e), HO4.out, RowsS.snoc HRW.out HR.out, HI2.out, HB4.out⟩
        case measure => simp [intOf]; omega
      | false =>
        have hRf2 := hRf rfl
        by_cases h1 : x.t < f.t
        · have HI2 := Lib.hid (HLT.out HI.out h1)
          have hne : r.n ≠ rf.n := fun e => t_irrefl f.t (by rw [str_txt, hrt, hft] at e; rwa [e] at h1)
          have l0 : Op.bytesLess r.n.toList rf.n.toList = true := by rw [less_eq, hrt, hft]; exact decide_eq_true h1
          have e0 := bne_str hne
          have e1 : (r.n.toList != rf.n.toList) = true := by simp [bne, e0]
          go_wp2_with fail
          go_quiet (fail)
          obtain ⟨X1, hX1⟩ : ∃ X, X = wr.drewN nq := ⟨_, rfl⟩
          rw [← hX1]
          have hx1 : Below wr.heap.size wr X1 := by rw [hX1]; exact below_drewN (Below.refl _ _) _
          have HO1 := Lib.hid (HO.out.stays hx1); have HB1 := Lib.hid (below_step HB.out hx1)
          clear hX1 hx1 p0 p1 p2 q0 q1 q2
          obtain ⟨p0, p1, p2⟩ := HBOX.out _ HB1.out
          obtain ⟨q0, q1, q2⟩ := HEL.out _ HB1.out
          go_wp2_with fail
          go_quiet (fail)
          obtain ⟨X3, hX3⟩ : ∃ X, X = X1.drewN nq := ⟨_, rfl⟩
          rw [← hX3]
          have hx3 : Below X1.heap.size X1 X3 := by rw [hX3]; exact below_drewN (Below.refl _ _) _
          have HO3 := Lib.hid (HO1.out.stays hx3); have HB3 := Lib.hid (below_step HB1.out hx3)
          clear hX3 hx3 p0 p1 p2 q0 q1 q2
          obtain ⟨p0, p1, p2⟩ := HBOX.out _ HB3.out
          obtain ⟨q0, q1, q2⟩ := HEL.out _ HB3.out
          go_wp2_with (at_builtin; refine wpList_append_dfr (y := r) rfl _ _ rfl HO3.out HB3.out.size rfl rfl HRL.out ?_)
          intro v4 X4 ho4 hb4
          have HO4 := Lib.hid ho4; have HB4 := Lib.hid (HB3.out.trans hb4)
          clear ho4 hb4 p0 p1 p2 q0 q1 q2
          go_wp2
          go_roundw
          case rel => exact ⟨k + 1, _, false, R ++ [r], _, by omega, by go_num, rfl, rfl, by simp; omega, by simp; omega, HO4.out, RowsS.snoc HRW.out HR.out, HI2.out, HB4.out⟩
          case measure => simp [intOf]; omega
        · have l0 : Op.bytesLess r.n.toList rf.n.toList = false := by rw [less_eq, hrt, hft]; exact decide_eq_false h1
          have l1 : Op.bytesLess rf.n.toList rf.n.toList = false := by rw [less_eq]; exact decide_eq_false (t_irrefl _)
          by_cases h2 : x.t = f.t
          · have HI2 := Lib.hid (HEQ.out HI.out h2)
            have he : r.n = rf.n := by rw [str_txt, hrt, hft]; exact h2
            have e0 := beq_str he
            have e1 : (r.n.toList != rf.n.toList) = false := by simp [bne, e0]
            go_wp2_with fail
            go_quiet (fail)
            obtain ⟨X1, hX1⟩ : ∃ X, X = wr.drewN nq := ⟨_, rfl⟩
            rw [← hX1]
            have hx1 : Below wr.heap.size wr X1 := by rw [hX1]; exact below_drewN (Below.refl _ _) _
            have HO1 := Lib.hid (HO.out.stays hx1); have HB1 := Lib.hid (below_step HB.out hx1)
            clear hX1 hx1 p0 p1 p2 q0 q1 q2
            obtain ⟨p0, p1, p2⟩ := HBOX.out _ HB1.out
            obtain ⟨q0, q1, q2⟩ := HEL.out _ HB1.out
            go_wp2_with (at_builtin; refine wpList_append_dfr (y := rf) rfl _ _ rfl HO1.out HB1.out.size rfl rfl HRL.out ?_)
            intro v2 X2 ho2 hb2
            have HO2 := Lib.hid ho2; have HB2 := Lib.hid (HB1.out.trans hb2)
            clear ho2 hb2 p0 p1 p2 q0 q1 q2
            obtain ⟨p0, p1, p2⟩ := HBOX.out _ HB2.out
            obtain ⟨q0, q1, q2⟩ := HEL.out _ HB2.out
            go_wp2_with fail
            go_quiet (fail)
            obtain ⟨X3, hX3⟩ : ∃ X, X = X2.drewN nq := ⟨_, rfl⟩
            rw [← hX3]
            have hx3 : Below X2.heap.size X2 X3 := by rw [hX3]; exact below_drewN (Below.refl _ _) _
            have HO3 := Lib.hid (HO2.out.stays hx3); have HB3 := Lib.hid (below_step HB2.out hx3)
            clear hX3 hx3 p0 p1 p2 q0 q1 q2
            obtain ⟨p0, p1, p2⟩ := HBOX.out _ HB3.out
            obtain ⟨q0, q1, q2⟩ := HEL.out _ HB3.out
            go_wp2
            go_roundw
            case rel => exact ⟨k + 1, _, true, R ++ [rf], _, by omega, by go_num, rfl, rfl, by simp; omega, fun e => (by cases e), HO3.out, RowsS.snoc HRF.out HR.out, HI2.out, HB3.out⟩
            case measure => simp [intOf]; omega
          · have h3 : f.t < x.t := Classical.byContradiction fun c => h2 (t_tri _ _ h1 c)
            have HI2 := Lib.hid (HGT.out HI.out h3)
            have hne : r.n ≠ rf.n := fun e => h2 (by rwa [str_txt, hrt, hft] at e)
            have e0 := bne_str hne
            have e1 : (r.n.toList != rf.n.toList) = true := by simp [bne, e0]
            go_wp2_with fail
            go_quiet (fail)
            obtain ⟨X1, hX1⟩ : ∃ X, X = wr.drewN nq := ⟨_, rfl⟩
            rw [← hX1]
            have hx1 : Below wr.heap.size wr X1 := by rw [hX1]; exact below_drewN (Below.refl _ _) _
            have HO1 := Lib.hid (HO.out.stays hx1); have HB1 := Lib.hid (below_step HB.out hx1)
            clear hX1 hx1 p0 p1 p2 q0 q1 q2
            obtain ⟨p0, p1, p2⟩ := HBOX.out _ HB1.out
            obtain ⟨q0, q1, q2⟩ := HEL.out _ HB1.out
            go_wp2_with (at_builtin; refine wpList_append_dfr (y := rf) rfl _ _ rfl HO1.out HB1.out.size rfl rfl HRL.out ?_)
            intro v2 X2 ho2 hb2
            have HO2 := Lib.hid ho2; have HB2 := Lib.hid (HB1.out.trans hb2)
            clear ho2 hb2 p0 p1 p2 q0 q1 q2
            obtain ⟨p0, p1, p2⟩ := HBOX.out _ HB2.out
            obtain ⟨q0, q1, q2⟩ := HEL.out _ HB2.out
            go_wp2_with fail
            go_quiet (fail)
            obtain ⟨X3, hX3⟩ : ∃ X, X = X2.drewN nq := ⟨_, rfl⟩
            rw [← hX3]
            have hx3 : Below X2.heap.size X2 X3 := by rw [hX3]; exact below_drewN (Below.refl _ _) _
            have HO3 := Lib.hid (HO2.out.stays hx3); have HB3 := Lib.hid (below_step HB2.out hx3)
            clear hX3 hx3 p0 p1 p2 q0 q1 q2
            obtain ⟨p0, p1, p2⟩ := HBOX.out _ HB3.out
            obtain ⟨q0, q1, q2⟩ := HEL.out _ HB3.out
            go_wp2_with (at_builtin; refine wpList_append_dfr (y := r) rfl _ _ rfl HO3.out HB3.out.size rfl rfl (HRL2.out rf) ?_)
            intro v4 X4 ho4 hb4
            have HO4 := Lib.hid ho4; have HB4 := Lib.hid (HB3.out.trans hb4)
            clear ho4 hb4 p0 p1 p2 q0 q1 q2
            go_wp2
            go_roundw
            case rel => exact ⟨k + 1, _, true, R ++ [rf, r], _, by omega, by go_num, rfl, rfl, by simp; omega, fun e => (by cases e), HO4.out, (by have := RowsS.snoc HRW.out (RowsS.snoc HRF.out HR.out); simpa using this), HI2.out, HB4.out⟩
            case measure => simp [intOf]; omega
    · obtain rfl : k = z := by omega
      have hbk : decide ((k : Int) < (k : Int)) = false := by simp
      have HKL : Hid (L.length ≤ k) := Lib.hid (by rw [← HZ.out]; exact Nat.le_refl _)
      cases dn with
      | true =>
        go_wp2
        go_ret
        exact ⟨_, _, rfl, ownD_low HO.out HB0.out.size, by rw [← withI_done HI.out HKL.out]; exact HR.out, below_step HB0.out HB.out⟩
      | false =>
        have hRl : R.length ≤ 1000000 := by omega
        go_wp2_with (at_builtin; refine wpList_append_dfr rfl _ _ rfl HO.out HB.out.size rfl rfl hRl ?_)
        intro v' w' hown' hb'
        have HO2 := Lib.hid hown'; have HB2 := Lib.hid (HB.out.trans hb')
        clear hown' hb'
        go_wp2
        go_ret
        exact ⟨_, _, rfl, ownD_low HO2.out HB0.out.size, by rw [← withI_last HI.out HKL.out]; exact RowsS.snoc HRF.out HR.out, below_step HB0.out HB2.out⟩
structure TwoB (w W : World) (x y : Array Value) : Prop where
  box : Row W w.heap.size x 28
  res : Row W (w.heap.size + 1) y 28
  below : Below w.heap.size w W
def putB (W : World) (B : Nat) (a b c : Value) : World := ((W.setCell ⟨B, 0, none⟩ a).setCell ⟨B, 1, none⟩ b).setCell ⟨B, 2, none⟩ c
section
variable {w W W' : World} {x y : Array Value}
theorem TwoB.step (h : TwoB w W x y) (hb : Below W.heap.size W W') : TwoB w W' x y := ⟨h.box.step hb, h.res.step hb, below_step h.below hb⟩
theorem TwoB.put0 {a b c a' b' c' : Value} (h : TwoB w W #[a, b, c] y) : TwoB w (putB W w.heap.size a' b' c') #[a', b', c'] y :=
  ⟨by have := ((h.box.set 0 a').set 1 b').set 2 c'; exact this,
   ((h.res.other ⟨w.heap.size, 0, none⟩ a' (by simp)).other ⟨w.heap.size, 1, none⟩ b' (by simp)).other ⟨w.heap.size, 2, none⟩ c' (by simp),
   ((h.below.setCell (p := ⟨w.heap.size, 0, none⟩) (Nat.le_refl _) a').setCell (p := ⟨w.heap.size, 1, none⟩) (Nat.le_refl _) b').setCell (p := ⟨w.heap.size, 2, none⟩) (Nat.le_refl _) c'⟩
theorem TwoB.put1 {a b c a' b' c' : Value} (h : TwoB w W x #[a, b, c]) : TwoB w (putB W (w.heap.size + 1) a' b' c') x #[a', b', c'] :=
  ⟨((h.box.other ⟨w.heap.size + 1, 0, none⟩ a' (by simp)).other ⟨w.heap.size + 1, 1, none⟩ b' (by simp)).other ⟨w.heap.size + 1, 2, none⟩ c' (by simp),
   by have := ((h.res.set 0 a').set 1 b').set 2 c'; exact this,
   ((h.below.setCell (p := ⟨w.heap.size + 1, 0, none⟩) (Nat.le_succ _) a').setCell (p := ⟨w.heap.size + 1, 1, none⟩) (Nat.le_succ _) b').setCell (p := ⟨w.heap.size + 1, 2, none⟩) (Nat.le_succ _) c'⟩
theorem TwoB.set0 {a b c a' : Value} (h : TwoB w W #[a, b, c] y) : TwoB w (W.setCell ⟨w.heap.size, 0, none⟩ a') #[a', b, c] y :=
  ⟨by have := h.box.set 0 a'; exact this, h.res.other ⟨w.heap.size, 0, none⟩ a' (by simp), h.below.setCell (p := ⟨w.heap.size, 0, none⟩) (Nat.le_refl _) a'⟩
theorem TwoB.cells {a b c a' b' c' : Value} (h : TwoB w W #[a, b, c] #[a', b', c']) : (W.cell? ⟨w.heap.size, 0, none⟩ = some a ∧ W.cell? ⟨w.heap.size, 1, none⟩ = some b ∧ W.cell? ⟨w.heap.size, 2, none⟩ = some c) ∧
    (W.cell? ⟨w.heap.size + 1, 0, none⟩ = some a' ∧ W.cell? ⟨w.heap.size + 1, 1, none⟩ = some b' ∧ W.cell? ⟨w.heap.size + 1, 2, none⟩ = some c') ∧
    (∀ i, W.frozen? ⟨w.heap.size, i, none⟩ = false) ∧ (∀ i, W.frozen? ⟨w.heap.size + 1, i, none⟩ = false) := by
  have p0 := h.box.cell 0; have p1 := h.box.cell 1; have p2 := h.box.cell 2
  have r0 := h.res.cell 0; have r1 := h.res.cell 1; have r2 := h.res.cell 2
  simp only [List.getElem?_toArray, List.getElem?_cons_zero, List.getElem?_cons_succ] at p0 p1 p2 r0 r1 r2
  exact ⟨⟨p0, p1, p2⟩, ⟨r0, r1, r2⟩, fun i => h.box.free i, fun i => h.res.free i⟩
end
theorem grownBy_set_Dkh (w : World) (b i : Nat) (u : Value) : w.grownBy (w.setCell ⟨b, i, none⟩ u) (some b) :=
  ⟨rfl, rfl, rfl, by simp [World.setCell], fun k hk hr => Below.heap_setCell _ _ _ _ (fun e => hr (by rw [e]))⟩
theorem ownD_set {B b i : Nat} {w : World} {v u : Value} {R : List Dfr} (h : OwnD B w v R) (hb : b < B) : OwnD B (w.setCell ⟨b, i, none⟩ u) v R :=
  World.ownsRow.kept h (grownBy_set_Dkh w b i u) (by
    cases hv : v.ownBlock with
    | none => exact .inl rfl
    | some k =>
      refine .inr fun e => ?_
      have := (World.ownsRow.lt h k hv).1
      cases e; omega)
theorem ownD_put {B b : Nat} {w : World} {v x y z : Value} {R : List Dfr} (h : OwnD B w v R) (hb : b < B) : OwnD B (putB w b x y z) v R := ownD_set (ownD_set (ownD_set h hb) hb) hb
theorem OwnD.len {B : Nat} {w : World} {v : Value} {R : List Dfr} (h : OwnD B w v R) : ∃ a n c, v = .slice a n c := by
  rcases h.2 with ⟨rfl, _⟩ | ⟨g, cap, cur, rfl, _⟩
  · exact ⟨_, _, _, rfl⟩
  · exact ⟨_, _, _, rfl⟩
theorem TwoB.lt {w W : World} {x y : Array Value} (h : TwoB w W x y) : w.heap.size + 1 < W.heap.size := h.res.lt
def RetD (r : Dsk × Int) (w : World) (e : Ending) (w' : World) : Prop := ∃ v, e = .returned (.tuple #[dskV v r.1, .int .i64 r.2]) ∧ IsDfs w' v r.1.fs ∧ Below w.heap.size w w'
theorem powD_fs (d : Dsk) : (powD d).1.fs = d.fs := by
  unfold powD; split
  · rfl
  · split <;> rfl
theorem thenD_bad {d : Dsk} {fs : List Dfl} (h : (powD d).2 ≠ 0) : thenD d fs = powD d := if_pos h
theorem thenD_ok {d : Dsk} {fs : List Dfl} (h : (powD d).2 = 0) : thenD d fs = (⟨fs, (powD d).1.off, (powD d).1.fuse⟩, 0) := if_neg (by simpa using h)
theorem twoB_new (w : World) (a : Option Addr) (z cap : Nat) (off : Bool) (fuse : Int) : TwoB w ((w.alloc (.cells #[.slice a z cap, .bool off, .int .i64 fuse] 28)).alloc (.cells #[.slice none 0 0, .bool false, .int .i64 0] 28)) #[.slice a z cap, .bool off, .int .i64 fuse] #[.slice none 0 0, .bool false, .int .i64 0] :=
  ⟨(Row.made _ _ _).alloc _, by have := Row.made (w.alloc (.cells #[.slice a z cap, .bool off, .int .i64 fuse] 28)) #[.slice none 0 0, .bool false, .int .i64 0] 28; simpa using this, ((Below.refl _ _).alloc (Nat.le_refl _) _).alloc (by simp) _⟩
end Go.Proofs.YtalknbadakfppaaGreat
namespace Go.Proofs.YtalknbadakfppaaGreat
open Go
section
variable {P : Program} {ops : Array Oper} {Q : Exit → Act → World → Prop}
def predsOf (ops : Array Oper) (i : Nat) : List Nat := ((ops[i]?).map fun o => (o.after.toList.filter (Region.binds .any)).map (·.on)).getD []
def ancOf (ops : Array Oper) : Nat → Nat → List Nat
  | 0, _ => []
  | f + 1, i => predsOf ops i ++ (predsOf ops i).flatMap (ancOf ops f)
theorem anc_listed {listed : Array Bool} (hc : ∀ k, listed.getD k false = true → ∀ j ∈ predsOf ops k, listed.getD j false = true) : ∀ (f i : Nat), (∀ j ∈ predsOf ops i, listed.getD j false = true) → ∀ k ∈ ancOf ops f i, listed.getD k false = true
  | 0, _, _, k, hk => by cases hk
  | f + 1, i, hp, k, hk => by
    rw [ancOf, List.mem_append, List.mem_flatMap] at hk
    rcases hk with hk | ⟨j, hj, hk⟩
    · exact hp k hk
    · exact anc_listed hc f j (hc j (hp j hj)) k hk
def slot (a : Act) (t : Tmp) : Value := a.tmps.getD t undef
theorem slot_put_same (a : Act) (t : Tmp) (v : Value) (h : t < a.tmps.size) : slot (a.put (some t) v) t = v := by
  simp [slot, Act.put, h]
theorem slot_put_other (a : Act) (d : Option Tmp) (t : Tmp) (v : Value) (h : d ≠ some t) : slot (a.put d v) t = slot a t := by
  cases d with
  | none => rfl
  | some d =>
    have h' : d ≠ t := fun e => h (by rw [e])
    simp [slot, Act.put, h']
theorem size_put (a : Act) (d : Option Tmp) (v : Value) : (a.put d v).tmps.size = a.tmps.size := by
  cases d <;> simp [Act.put]
theorem defers_put (a : Act) (d : Option Tmp) (v : Value) : (a.put d v).defers = a.defers := by
  cases d <;> simp [Act.put]
def dstOf (ops : Array Oper) (i : Nat) : Option Tmp := (ops[i]?).bind (·.dst)
def keptA (ops : Array Oper) (needs : Nat → List Nat) (last : List Nat) (i k : Nat) : Bool := last.contains k || (List.range ops.size).any fun j => j != i && !(ancOf ops 3 i).contains j && (needs j).contains k
def leanA (ops : Array Oper) (m : Nat) (needs : Nat → List Nat) (last : List Nat) (dep : Nat → List Tmp) : Bool :=
  (List.range ops.size).all fun i => ((needs i).all fun k => decide (ops.size ≤ k) || (ancOf ops 3 i).contains k) &&
    (List.range m).all fun k => k == i || (ancOf ops 3 k).contains i || !keptA ops needs last i k || ((dstOf ops i).map fun t => !(dep k).contains t).getD true
structure RelyInv (ops : Array Oper) (m : Nat) (a0 : Act) (G : World → Prop) (V : Nat → Act → World → Prop) (needs : Nat → List Nat) (last : List Nat) (listed : Array Bool) (a : Act) (w : World) : Prop where
  g : G w
  defers : a.defers = a0.defers
  size : a.tmps.size = a0.tmps.size
  len : listed.size = ops.size
  val : ∀ k, k < m → (ops.size ≤ k ∨ listed.getD k false = true) → (k ∈ last ∨ ∃ j, j < ops.size ∧ listed.getD j false = false ∧ k ∈ needs j) → V k a w
  old : ∀ t, (∀ k, dstOf ops k = some t → listed.getD k false = false) → slot a t = slot a0 t
  closed : ∀ k, listed.getD k false = true → ∀ j ∈ predsOf ops k, listed.getD j false = true
theorem ready_spec {listed : Array Bool} {i : Nat} (h : i ∈ Region.ready .any ops listed) (hl : listed.size = ops.size) : i < ops.size ∧ listed.getD i false = false ∧ ∀ j ∈ predsOf ops i, listed.getD j false = true := by
  unfold Region.ready at h
  rw [List.mem_filter, List.mem_range] at h
  obtain ⟨hi, h2⟩ := h
  simp only [Bool.and_eq_true, Bool.not_eq_true'] at h2
  obtain ⟨h2, h3⟩ := h2
  refine ⟨hi, ?_, ?_⟩
  · have hil : i < listed.size := by omega
    simpa [Array.getD, hil] using h2
  · intro j hj
    unfold predsOf at hj
    rw [Array.getElem?_eq_getElem hi] at hj h3
    simp only [Option.map_some, Option.getD_some, List.mem_map, List.mem_filter] at hj h3
    obtain ⟨e, ⟨he, hb⟩, rfl⟩ := hj
    rw [Array.all_eq_true_iff_forall_mem] at h3
    have := h3 e (by simpa using he)
    simpa [hb] using this
theorem ready_of {listed : Array Bool} {i : Nat} (hi : i < ops.size) (hl : listed.size = ops.size) (h0 : listed.getD i false = false) (hp : ∀ j ∈ predsOf ops i, listed.getD j false = true) : i ∈ Region.ready .any ops listed := by
  unfold Region.ready
  rw [List.mem_filter, List.mem_range]
  refine ⟨hi, ?_⟩
  simp only [Bool.and_eq_true, Bool.not_eq_true']
  refine ⟨?_, ?_⟩
  · have hil : i < listed.size := by omega
    simpa [Array.getD, hil] using h0
  · rw [Array.getElem?_eq_getElem hi]
    simp only [Option.map_some, Option.getD_some]
    rw [Array.all_eq_true_iff_forall_mem]
    intro e he
    by_cases hb : Region.binds .any e = true
    · have := hp e.on (by unfold predsOf; rw [Array.getElem?_eq_getElem hi]; simp only [Option.map_some, Option.getD_some, List.mem_map, List.mem_filter]; exact ⟨e, ⟨by simpa using he, hb⟩, rfl⟩)
      simp [hb, this]
    · simp [hb]
def unl (n : Nat) (listed : Array Bool) : Nat := (List.range n).countP fun i => !listed.getD i false
theorem unl_zero {n : Nat} {listed : Array Bool} (h : unl n listed = 0) (i : Nat) (hi : i < n) : listed.getD i false = true := by
  unfold unl at h
  rw [List.countP_eq_zero] at h
  have := h i (List.mem_range.2 hi)
  simpa using this
theorem getD_set (listed : Array Bool) (i j : Nat) (hi : i < listed.size) : (listed.setIfInBounds i true).getD j false = if j = i then true else listed.getD j false := by
  by_cases h : j = i
  · subst h; simp [hi]
  · have h' : i ≠ j := fun e => h e.symm
    simp [h, h']
theorem countP_flip {l : List Nat} (hn : l.Nodup) {p q : Nat → Bool} {i : Nat} (hi : i ∈ l) (hp : p i = true) (hq : q i = false) (he : ∀ j, j ≠ i → q j = p j) : l.countP p = l.countP q + 1 := by
  induction l with
  | nil => cases hi
  | cons x l ih =>
    rw [List.nodup_cons] at hn
    rw [List.countP_cons, List.countP_cons]
    by_cases hx : x = i
    · subst hx
      have : l.countP p = l.countP q := List.countP_congr fun j hj => by rw [he j (fun e => hn.1 (e ▸ hj))]
      simp [hp, hq, this]
    · rcases List.mem_cons.1 hi with h | h
      · exact absurd h.symm hx
      · have := ih hn.2 h
        rw [he x hx]; omega
theorem unl_set {n : Nat} {listed : Array Bool} {i : Nat} (hi : i < n) (hs : i < listed.size) (h0 : listed.getD i false = false) : unl n listed = unl n (listed.setIfInBounds i true) + 1 := by
  unfold unl
  refine countP_flip List.nodup_range (List.mem_range.2 hi) (by simpa using h0) (by rw [getD_set _ _ _ hs]; simp) fun j hj => ?_
  rw [getD_set _ _ _ hs, if_neg hj]
theorem all_listed {listed : Array Bool} (hl : listed.size = ops.size) (hord : ∀ i, i < ops.size → ∀ j ∈ predsOf ops i, j < i) (hr : Region.ready .any ops listed = []) : ∀ i, i < ops.size → listed.getD i false = true := by
  intro i
  induction i using Nat.strongRecOn with
  | ind i ih =>
    intro hi
    by_cases h : listed.getD i false = true
    · exact h
    · exfalso
      have := ready_of hi hl (by simpa using h) (fun j hj => ih j (hord i hi j hj) (Nat.lt_trans (hord i hi j hj) hi))
      rw [hr] at this
      cases this
def AllFrom (S : Nat → Oper → Prop) : Nat → List Oper → Prop
  | _, [] => True
  | n, o :: l => S n o ∧ AllFrom S (n + 1) l
theorem allFrom_get {S : Nat → Oper → Prop} : ∀ {l : List Oper} {n : Nat}, AllFrom S n l → ∀ i (hi : i < l.length), S (n + i) l[i]
  | _ :: _, _, h, 0, _ => h.1
  | _ :: l, n, h, i + 1, hi => by
    have := allFrom_get h.2 i (by simpa using hi)
    rw [Nat.add_assoc, Nat.add_comm 1 i] at this
    exact this
theorem forall_ops {S : Nat → Oper → Prop} {l : List Oper} (h : AllFrom S 0 l) : ∀ i (hi : i < l.toArray.size), S i (l.toArray[i]) := fun i hi => by
  have := allFrom_get h i (by simpa using hi)
  rw [Nat.zero_add] at this
  simpa using this
def oldB (ops : Array Oper) (i : Nat) (t : Tmp) : Bool := (List.range ops.size).all fun k => !(dstOf ops k == some t) || (predsOf ops k).contains i
theorem old_of {i : Nat} {t : Tmp} (h : oldB ops i t = true) : ∀ k, dstOf ops k = some t → i ∈ predsOf ops k := fun k hk => by
  have hkl : k < ops.size := by
    rcases Nat.lt_or_ge k ops.size with h | h
    · exact h
    · unfold dstOf at hk; rw [Array.getElem?_eq_none h] at hk; cases hk
  have := (List.all_eq_true.1 h) k (List.mem_range.2 hkl)
  rw [hk] at this
  simpa using this
theorem wp_value {o : Oper} {a : Act} {w w' : World} {v : Value} {K : Act → World → Prop} (h : (execOp a.eval o).run P w = .ok (.value v) w') (hk : K (a.put o.dst v) w') : o.wp P a w K Q := by
  unfold Oper.wp; rw [h]; exact hk
theorem wp_skip {o : Oper} {a : Act} {w w' : World} {K : Act → World → Prop} (h : (execOp a.eval o).run P w = .ok .skip w') (hk : K (a.put o.dst undef) w') : o.wp P a w K Q := by
  unfold Oper.wp; rw [h]; exact hk
def patchL (ds : List Tmp) (s : Tmp → Value) : Nat → List Value → List Value
  | _, [] => []
  | t, v :: l => (if ds.contains t then s t else v) :: patchL ds s (t + 1) l
theorem patchL_get (ds : List Tmp) (s : Tmp → Value) : ∀ (l : List Value) (n i : Nat), (patchL ds s n l)[i]? = (l[i]?).map fun v => if ds.contains (n + i) then s (n + i) else v
  | [], _, _ => by simp [patchL]
  | v :: l, n, 0 => by simp [patchL]
  | v :: l, n, i + 1 => by
    rw [patchL, List.getElem?_cons_succ, patchL_get ds s l (n + 1) i, List.getElem?_cons_succ, Nat.add_assoc, Nat.add_comm 1 i]
theorem act_patch {a a0 : Act} (ds : List Tmp) (hS : a.tmps.size = a0.tmps.size) (hD : a.defers = a0.defers) (h : ∀ t, t ∉ ds → slot a t = slot a0 t) : a = ⟨(patchL ds (slot a) 0 a0.tmps.toList).toArray, a0.defers⟩ := by
  obtain ⟨tm, df⟩ := a
  obtain ⟨tm0, df0⟩ := a0
  simp only at hS hD
  subst hD
  congr 1
  apply Array.ext_getElem?
  intro i
  simp only [List.getElem?_toArray, patchL_get, Nat.zero_add, Array.getElem?_toList]
  by_cases hi : i < tm.size
  · have hi0 : i < tm0.size := by omega
    rw [Array.getElem?_eq_getElem hi, Array.getElem?_eq_getElem hi0]
    simp only [Option.map_some, Option.some.injEq]
    split
    · simp [slot, hi]
    · rename_i hc
      have := h i (by simpa using hc)
      simpa [slot, hi, hi0] using this
  · rw [Array.getElem?_eq_none (by omega), Array.getElem?_eq_none (by omega)]; rfl
def dstsOf (ops : Array Oper) : List Tmp := (List.range ops.size).filterMap (dstOf ops)
theorem free_of {t : Tmp} (h : t ∉ dstsOf ops) : ∀ k : Nat, dstOf ops k ≠ some t := fun k hk => by
  refine h (List.mem_filterMap.2 ⟨k, ?_, hk⟩)
  rw [List.mem_range]
  rcases Nat.lt_or_ge k ops.size with h | h
  · exact h
  · unfold dstOf at hk; rw [Array.getElem?_eq_none h] at hk; cases hk
theorem eval_slot (a : Act) (t : Tmp) : a.eval (.tmp t) = slot a t := rfl
end
end Go.Proofs.YtalknbadakfppaaGreat
set_option linter.unusedVariables false
namespace Go.Proofs.YtalknbadakfppaaGreat
open Go.RowKit
theorem wp_callf {P : Program} {o : Oper} {a : Act} {w : World} {K : Act → World → Prop} {Q : Exit → Act → World → Prop} (f : FuncId) (args : Array Operand) (tys : Array TypeId) (ho : o.op = .call { callee := .value (.func f), args := args, argTypes := tys })
    (hen : ∀ xs w, (callFunc f xs).run P w = .ok (.enter f xs) w) (xs : Array Value) (hxs : args.map a.eval = xs) (v : Value) {R : World → Prop} (h : Calls P f xs w fun e w' => e = .returned v ∧ R w') (hk : ∀ w', R w' → K (a.put o.dst v) w') : o.wp P a w K Q := by
  unfold Oper.wp execOp
  simp only [ho]
  simp [hxs, go_sem, hen]
  refine h.mono ?_
  rintro e w' ⟨rfl, hr⟩
  exact hk w' hr
theorem slotE {a : Act} {t : Tmp} {v : Value} (h : slot a t = v) : a.eval (.tmp t) = v := h
def needL (l : List (List Nat)) (i : Nat) : List Nat := l.getD i []
def boundL (l : List (List Nat)) (m : Nat) : Bool := l.all fun x => x.all (· < m)
theorem needL_bound {l : List (List Nat)} {m : Nat} (h : boundL l m = true) (i k : Nat) (hk : k ∈ needL l i) : k < m := by
  unfold needL at hk
  rw [List.getD_eq_getElem?_getD] at hk
  cases hi : l[i]? with
  | none => rw [hi] at hk; cases hk
  | some x =>
    rw [hi] at hk
    have h1 := (List.all_eq_true.1 h) x (List.mem_of_getElem? hi)
    simpa using (List.all_eq_true.1 h1) k hk
theorem run_move_slot {P : Program} {a : Act} {w : World} {o : Oper} {s : Tmp} {v : Value} (ho : o.op = .move (.tmp s) ∨ o.op = .assign (.tmp s)) (h : slot a s = v) : (execOp a.eval o).run P w = .ok (.value v) w := by
  have e : a.eval (.tmp s) = v := h
  rcases ho with ho | ho <;> simp [execOp, ho, e]
theorem slot_at {a : Act} {t : Tmp} {v : Value} (h : slot a t = v) : a.tmps[t]?.getD undef = v := by rw [← h]; simp [slot]
end Go.Proofs.YtalknbadakfppaaGreat
set_option linter.unusedVariables false
namespace Go.Proofs.YtalknbadakfppaaGreat
open Go Go.RowKit
section
variable {P : Program} {ops : Array Oper} {Q : Exit → Act → World → Prop}
def relyGB (ops : Array Oper) (n : Nat) : Bool :=
  (List.range ops.size).all fun i => (predsOf ops i).all (· < i) &&
    (((ops[i]?).bind (·.dst)).map fun t => decide (t < n) && (List.range ops.size).all fun k => k == i || !(((ops[k]?).bind (·.dst)) == some t)).getD true
theorem wp_any_relyG {a0 : Act} {w0 : World} (hB : relyGB ops a0.tmps.size = true) (T : Nat → World → World → Prop) (G : World → Prop) (V : Nat → Act → World → Prop)
    (m : Nat) (needs : Nat → List Nat) (last : List Nat) (dep : Nat → List Tmp) (hL : leanA ops m needs last dep = true) (hneeds : ∀ i k, k ∈ needs i → k < m)
    (hdep : ∀ k a a' w, k < m → (∀ t ∈ dep k, slot a' t = slot a t) → V k a w → V k a' w)
    (hT : ∀ i k a w w', i < ops.size → k < m → k ≠ i → keptA ops needs last i k = true → i ∉ ancOf ops 3 k → V k a w → T i w w' → V k a w')
    (hG : G { w0 with drawn := w0.drawn + 1 }) (hV0 : ∀ k, k < m → ops.size ≤ k → V k a0 { w0 with drawn := w0.drawn + 1 })
    (step : ∀ i (hi : i < ops.size) a w, G w → (∀ k ∈ needs i, V k a w) → (∀ t, (∀ k, dstOf ops k = some t → i ∈ predsOf ops k) → slot a t = slot a0 t) → a.tmps.size = a0.tmps.size →
      (Region.wanted (ops[i]) (yielded ops a.tmps) = true ∧ (ops[i]).wp P a w (fun a' w' => ∃ v, a' = a.put (ops[i]).dst v ∧ T i w w' ∧ G w' ∧ V i a' w') Q) ∨
        (Region.wanted (ops[i]) (yielded ops a.tmps) = false ∧ T i w w ∧ V i (a.put (ops[i]).dst undef) w))
    (done : ∀ a w, G w → (∀ k ∈ last, k < m → V k a w) → (∀ t, (∀ k : Nat, dstOf ops k ≠ some t) → slot a t = slot a0 t) → a.tmps.size = a0.tmps.size → a.defers = a0.defers → Q .normal a w) :
    wpAny P .any ops Q ops.size (Array.replicate ops.size false) a0 { w0 with drawn := w0.drawn + 1 } := by
  have hB' : ∀ i, i < ops.size → (∀ j ∈ predsOf ops i, j < i) ∧
      (((ops[i]?).bind (·.dst)).map fun t => decide (t < a0.tmps.size) && (List.range ops.size).all fun k => k == i || !(((ops[k]?).bind (·.dst)) == some t)).getD true = true := by
    intro i hi
    have := (List.all_eq_true.1 hB) i (List.mem_range.2 hi)
    simp only [Bool.and_eq_true] at this
    obtain ⟨h1, h3⟩ := this
    exact ⟨fun j hj => by simpa using (List.all_eq_true.1 h1) j hj, h3⟩
  have hL' : ∀ i, i < ops.size → (∀ k ∈ needs i, ops.size ≤ k ∨ k ∈ ancOf ops 3 i) ∧ ∀ k, k < m → k ≠ i → i ∉ ancOf ops 3 k → keptA ops needs last i k = true → ∀ t, dstOf ops i = some t → t ∉ dep k := by
    intro i hi
    have := (List.all_eq_true.1 hL) i (List.mem_range.2 hi)
    rw [Bool.and_eq_true] at this
    obtain ⟨h1, h2⟩ := this
    refine ⟨fun k hk => by simpa using (List.all_eq_true.1 h1) k hk, fun k hk hki hip hke t ht => ?_⟩
    have h3 := (List.all_eq_true.1 h2) k (List.mem_range.2 hk)
    have hip' : (ancOf ops 3 k).contains i = false := by simpa using hip
    have hki' : (k == i) = false := by simpa using hki
    rw [hke, hip', hki', ht] at h3
    simpa using h3
  have key : ∀ fuel listed a w, unl ops.size listed ≤ fuel → RelyInv ops m a0 G V needs last listed a w → wpAny P .any ops Q fuel listed a w := by
    intro fuel
    have fin : ∀ listed a w, RelyInv ops m a0 G V needs last listed a w → (∀ i, i < ops.size → listed.getD i false = true) → Q .normal a w := fun listed a w I hall =>
      done a w I.g (fun k hk hkm => I.val k hkm (by
        rcases Nat.lt_or_ge k ops.size with h | h
        · exact .inr (hall k h)
        · exact .inl h) (.inl hk)) (fun t ht => I.old t fun k hk => absurd hk (ht k)) I.size I.defers
    induction fuel with
    | zero =>
      intro listed a w hu I
      have hall := fun i hi => unl_zero (Nat.le_zero.1 hu) i hi
      refine ⟨?_, fin listed a w I hall⟩
      apply List.eq_nil_iff_forall_not_mem.2
      intro i hi
      obtain ⟨h1, h2, _⟩ := ready_spec hi I.len
      rw [hall i h1] at h2; cases h2
    | succ fuel ih =>
      intro listed a w hu I
      refine ⟨fun hr => fin listed a w I (all_listed I.len (fun i hi => (hB' i hi).1) hr), fun i hi => ?_⟩
      obtain ⟨h1, h2, h3⟩ := ready_spec hi I.len
      have hil : i < listed.size := by rw [I.len]; exact h1
      have hst := step i h1 a w I.g (fun k hk => I.val k (hneeds i k hk) (((hL' i h1).1 k hk).imp (fun h => h) (anc_listed I.closed 3 i h3 k)) (.inr ⟨i, h1, h2, hk⟩)) (fun t ht => I.old t fun k hk => by
        by_cases hc : listed.getD k false = true
        · have := I.closed k hc i (ht k hk)
          rw [h2] at this; cases this
        · simpa using hc) I.size
      have next : ∀ v w', T i w w' → G w' → V i (a.put (ops[i]).dst v) w' → wpAny P .any ops Q fuel (listed.setIfInBounds i true) (a.put (ops[i]).dst v) w' := by
        intro v w' hTi hG' hv
        refine ih _ _ _ (by have := unl_set h1 hil h2; omega) ⟨hG', by rw [defers_put]; exact I.defers, by rw [size_put]; exact I.size, by simp [I.len], ?_, ?_, ?_⟩
        · intro k hkm hkl hkn
          by_cases e : k = i
          · subst e; exact hv
          · have hkl' : ops.size ≤ k ∨ listed.getD k false = true := hkl.imp (fun h => h) fun h => by rwa [getD_set _ _ _ hil, if_neg e] at h
            have hip : i ∉ ancOf ops 3 k := fun hip => by
              rcases hkl' with h | h
              · have e0 : predsOf ops k = [] := by unfold predsOf; rw [Array.getElem?_eq_none h]; rfl
                simp [ancOf, e0] at hip
              · have := anc_listed I.closed 3 k (I.closed k h) i hip
                rw [h2] at this; cases this
            have hkn' : (k ∈ last ∨ ∃ j, j < ops.size ∧ listed.getD j false = false ∧ k ∈ needs j) ∧ keptA ops needs last i k = true := by
              rcases hkn with h | ⟨j, hj, hjl, hjk⟩
              · exact ⟨.inl h, by simp [keptA, h]⟩
              · rw [getD_set _ _ _ hil] at hjl
                split at hjl
                · cases hjl
                · rename_i hji
                  refine ⟨.inr ⟨j, hj, hjl, hjk⟩, ?_⟩
                  unfold keptA
                  rw [Bool.or_eq_true]
                  right
                  rw [List.any_eq_true]
                  have hja : j ∉ ancOf ops 3 i := fun h => by
                    have := anc_listed I.closed 3 i h3 j h
                    rw [hjl] at this; cases this
                  exact ⟨j, List.mem_range.2 hj, by simp [hji, hjk, hja]⟩
            refine hdep k a _ w' hkm (fun t ht => slot_put_other _ _ _ _ fun hd => (hL' i h1).2 k hkm e hip hkn'.2 t (by unfold dstOf; rw [Array.getElem?_eq_getElem h1]; exact hd) ht) ?_
            exact hT i k a w w' h1 hkm e hkn'.2 hip (I.val k hkm hkl' hkn'.1) hTi
        · intro t ht
          rw [slot_put_other _ _ _ _ (fun hd => by
            have := ht i (by unfold dstOf; rw [Array.getElem?_eq_getElem h1]; exact hd)
            rw [getD_set _ _ _ hil, if_pos rfl] at this; cases this)]
          exact I.old t fun k hk => by
            have := ht k hk
            rw [getD_set _ _ _ hil] at this
            split at this
            · cases this
            · exact this
        · intro k hkl j hj
          rw [getD_set _ _ _ hil]
          split
          · rfl
          · rename_i hji
            rw [getD_set _ _ _ hil] at hkl
            split at hkl
            · rename_i hki; subst hki; exact h3 j hj
            · exact I.closed k hkl j hj
      unfold wpOp
      rw [Array.getElem?_eq_getElem h1]
      rcases hst with ⟨hw, hst⟩ | ⟨hw, hTi, hv⟩
      · simp only [hw, if_true]
        refine .inl (Oper.wp_mono ?_ hst)
        rintro a' w' ⟨v, rfl, hTi, hG', hv⟩
        exact next v w' hTi hG' hv
      · simp only [hw, Bool.false_eq_true, if_false]
        exact next undef w hTi I.g hv
  refine key _ _ _ _ ?_ ⟨hG, rfl, rfl, by simp, ?_, fun t _ => rfl, ?_⟩
  · unfold unl
    exact Nat.le_trans (List.countP_le_length) (by simp)
  · intro k hkm h _
    rcases h with h | h
    · exact hV0 k hkm h
    · simp [Array.getElem?_replicate] at h
      split at h <;> simp at h
  · intro k h
    simp [Array.getElem?_replicate] at h
    split at h <;> simp at h
def exV (ex : Nat → Option Tmp) (k : Nat) (a : Act) : Value := ((ex k).map (slot a)).getD undef
def wordE (ops : Array Oper) (ex : Nat → Option Tmp) (U : Nat → Value → Value → World → Prop) (k : Nat) (a : Act) (w : World) : Prop := U k (((dstOf ops k).map (slot a)).getD undef) (exV ex k a) w
def depE (ops : Array Oper) (ex : Nat → Option Tmp) (k : Nat) : List Tmp := (dstOf ops k).toList ++ (ex k).toList
def StepG (P : Program) (ops : Array Oper) (Q : Exit → Act → World → Prop) (a0 : Act) (T : Nat → World → World → Prop) (G : World → Prop) (ex : Nat → Option Tmp) (U : Nat → Value → Value → World → Prop) (nl : List (List Nat)) (i : Nat) (o : Oper) : Prop :=
  ∀ a w, G w → (∀ k ∈ needL nl i, wordE ops ex U k a w) → (∀ t, oldB ops i t = true → slot a t = slot a0 t) →
    (Region.wanted o (yielded ops a.tmps) = true ∧ o.wp P a w (fun a' w' => ∃ v, a' = a.put o.dst v ∧ T i w w' ∧ G w' ∧ U i (if o.dst.isSome then v else undef) (exV ex i a) w') Q) ∨ (Region.wanted o (yielded ops a.tmps) = false ∧ T i w w ∧ U i undef (exV ex i a) w)
theorem wp_any_wordsG {a0 : Act} {w0 : World} (hB : relyGB ops a0.tmps.size = true)
    (T : Nat → World → World → Prop) (G : World → Prop) (ex : Nat → Option Tmp) (U : Nat → Value → Value → World → Prop) (m : Nat) (nl : List (List Nat)) (last : List Nat) (hb : boundL nl m = true) (hL : leanA ops m (needL nl) last (depE ops ex) = true)
    (hex : ((List.range m).all fun k => (dstOf ops k).isNone || (ex k).isNone || !(dstOf ops k == ex k)) = true)
    (bad : List (Nat × Nat)) (hbad : (bad.all fun x => !keptA ops (needL nl) last x.1 x.2 || (ancOf ops 3 x.2).contains x.1) = true) (hT : ∀ i k v e w w', i < ops.size → k < m → k ≠ i → (i, k) ∉ bad → U k v e w → T i w w' → U k v e w') (hm2 : ops.size ≤ m)
    (hG : G { w0 with drawn := w0.drawn + 1 }) (hV0 : ∀ k, k < m → ops.size ≤ k → U k undef (exV ex k a0) { w0 with drawn := w0.drawn + 1 })
    (ds : List Tmp) (hds : dstsOf ops = ds) (step : ∀ i (hi : i < ops.size), StepG P ops Q a0 T G ex U nl i ops[i])
    (done : ∀ a w, G w → (∀ k ∈ last, k < m → wordE ops ex U k a w) → a.tmps.size = a0.tmps.size → a = ⟨(patchL ds (slot a) 0 a0.tmps.toList).toArray, a0.defers⟩ → Q .normal a w) :
    wpAny P .any ops Q ops.size (Array.replicate ops.size false) a0 { w0 with drawn := w0.drawn + 1 } := by
  subst hds
  refine wp_any_relyG hB T G (wordE ops ex U) m (needL nl) last (depE ops ex) hL (needL_bound hb) ?_ (fun i k a w w' hi hk hne hke hip h hTi => hT i k _ _ w w' hi hk hne (fun hx => by have := (List.all_eq_true.1 hbad) _ hx; simp [hke] at this; exact hip this) h hTi) hG ?_ ?_ ?_
  · intro k a a' w hk h hv
    have h1 : ((dstOf ops k).map (slot a')).getD undef = ((dstOf ops k).map (slot a)).getD undef := by
      cases hd : dstOf ops k with
      | none => rfl
      | some t => simp only [Option.map_some, Option.getD_some]; exact h t (by simp [depE, hd])
    have h2 : exV ex k a' = exV ex k a := by
      unfold exV
      cases hd : ex k with
      | none => rfl
      | some t => simp only [Option.map_some, Option.getD_some]; exact h t (by simp [depE, hd])
    unfold wordE at hv ⊢
    rw [h1, h2]; exact hv
  · intro k hk hge
    unfold wordE
    have : dstOf ops k = none := by unfold dstOf; rw [Array.getElem?_eq_none hge]; rfl
    rw [this]; exact hV0 k hk hge
  · intro i hi a w hGw hN hO hS
    have fin : ∀ v w', U i (if (ops[i]).dst.isSome then v else undef) (exV ex i a) w' → wordE ops ex U i (a.put (ops[i]).dst v) w' := by
      intro v w' h3
      have hd : dstOf ops i = ops[i].dst := by unfold dstOf; rw [Array.getElem?_eq_getElem hi]; rfl
      have h4 : exV ex i (a.put (ops[i]).dst v) = exV ex i a := by
        unfold exV
        cases he : ex i with
        | none => rfl
        | some t =>
          simp only [Option.map_some, Option.getD_some]
          refine slot_put_other _ _ _ _ fun hdt => ?_
          have := (List.all_eq_true.1 hex) i (List.mem_range.2 (by omega))
          rw [hd, hdt, he] at this
          simp at this
      unfold wordE
      rw [hd, h4]
      cases ht : ops[i].dst with
      | none => rw [ht] at h3; exact h3
      | some t =>
        rw [ht] at h3
        have hlt : t < a0.tmps.size := by
          have := (List.all_eq_true.1 hB) i (List.mem_range.2 hi)
          simp only [Bool.and_eq_true] at this
          have h5 := this.2
          have hd' : (ops[i]?).bind (·.dst) = some t := by rw [Array.getElem?_eq_getElem hi]; exact ht
          rw [hd'] at h5
          simp only [Option.map_some, Option.getD_some, Bool.and_eq_true, decide_eq_true_eq] at h5
          exact h5.1
        simp only [Option.map_some, Option.getD_some]
        rw [slot_put_same _ _ _ (by rw [hS]; exact hlt)]
        exact h3
    rcases step i hi a w hGw hN (fun t ht => hO t (old_of ht)) with ⟨hw, hst⟩ | ⟨hw, h1, h3⟩
    · refine .inl ⟨hw, Oper.wp_mono ?_ hst⟩
      rintro a' w' ⟨v, rfl, h1, h2, h3⟩
      exact ⟨v, rfl, h1, h2, fin v w' h3⟩
    · exact .inr ⟨hw, h1, fin undef w (by split <;> exact h3)⟩
  · intro a w hGw hV hO hS hD
    exact done a w hGw hV hS (act_patch _ hS hD (fun t ht => hO t (free_of ht)))
end
section
variable {P : Program} {ops : Array Oper} {Q : Exit → Act → World → Prop} {a0 : Act} {T : Nat → World → World → Prop} {G : World → Prop} {ex : Nat → Option Tmp} {U : Nat → Value → Value → World → Prop} {nl : List (List Nat)} {i : Nat} {o : Oper}
def StepR (P : Program) (ops : Array Oper) (Q : Exit → Act → World → Prop) (a0 : Act) (T : Nat → World → World → Prop) (G : World → Prop) (ex : Nat → Option Tmp) (U : Nat → Value → Value → World → Prop) (nl : List (List Nat)) (i : Nat) (o : Oper) : Prop :=
  ∀ a w, G w → (∀ k ∈ needL nl i, wordE ops ex U k a w) → (∀ t, oldB ops i t = true → slot a t = slot a0 t) →
    o.wp P a w (fun a' w' => ∃ v, a' = a.put o.dst v ∧ T i w w' ∧ G w' ∧ U i (if o.dst.isSome then v else undef) (exV ex i a) w') Q
theorem stepG_of (hg : o.guard = none) (h : StepR P ops Q a0 T G ex U nl i o) : StepG P ops Q a0 T G ex U nl i o := fun a w hG hN hO => .inl ⟨by unfold Region.wanted; rw [hg], h a w hG hN hO⟩
theorem stepR_value {t : Tmp} (v : Value) (hd : o.dst = some t) (hTr : ∀ w, T i w w)
    (hrun : ∀ a w, G w → (∀ k ∈ needL nl i, wordE ops ex U k a w) → (∀ t, oldB ops i t = true → slot a t = slot a0 t) → (execOp a.eval o).run P w = .ok (.value v) w)
    (hU : ∀ a w, G w → (∀ k ∈ needL nl i, wordE ops ex U k a w) → U i v (exV ex i a) w) : StepR P ops Q a0 T G ex U nl i o := by
  intro a w hG hN hO
  exact wp_value (hrun a w hG hN hO) ⟨v, rfl, hTr w, hG, by rw [hd]; exact hU a w hG hN⟩
end
variable {P : Program} {ops : Array Oper} {Q : Exit → Act → World → Prop}
theorem wp_region_wordsG {id : Nat} {a0 : Act} {w0 : World} (hm : P.follows .mixedOrders = true) (hB : relyGB ops a0.tmps.size = true)
    (T : Nat → World → World → Prop) (G : World → Prop) (ex : Nat → Option Tmp) (U : Nat → Value → Value → World → Prop) (m : Nat) (nl : List (List Nat)) (last : List Nat) (hb : boundL nl m = true) (hL : leanA ops m (needL nl) last (depE ops ex) = true)
    (hex : ((List.range m).all fun k => (dstOf ops k).isNone || (ex k).isNone || !(dstOf ops k == ex k)) = true)
    (bad : List (Nat × Nat)) (hbad : (bad.all fun x => !keptA ops (needL nl) last x.1 x.2 || (ancOf ops 3 x.2).contains x.1) = true) (hT : ∀ i k v e w w', i < ops.size → k < m → k ≠ i → (i, k) ∉ bad → U k v e w → T i w w' → U k v e w') (hm2 : ops.size ≤ m)
    (hG : G { w0 with drawn := w0.drawn + 1 }) (hV0 : ∀ k, k < m → ops.size ≤ k → U k undef (exV ex k a0) { w0 with drawn := w0.drawn + 1 })
    (ds : List Tmp) (hds : dstsOf ops = ds) (step : ∀ i (hi : i < ops.size), StepG P ops Q a0 T G ex U nl i ops[i])
    (done : ∀ a w, G w → (∀ k ∈ last, k < m → wordE ops ex U k a w) → a.tmps.size = a0.tmps.size → a = ⟨(patchL ds (slot a) 0 a0.tmps.toList).toArray, a0.defers⟩ → Q .normal a w) :
    (Code.region id ops true).wp P Q a0 w0 :=
  wp_region_any hm (wp_any_wordsG hB T G ex U m nl last hb hL hex bad hbad hT hm2 hG hV0 ds hds step done)
end Go.Proofs.YtalknbadakfppaaGreat
set_option linter.unusedVariables false
namespace Go.Proofs.YtalknbadakfppaaGreat
open Go.RowKit
def appT (j : Nat) (R : World → World → Prop) (i : Nat) (w w' : World) : Prop := if i = j then R w w' else Below w.heap.size w w'
theorem appT_at {j : Nat} {R : World → World → Prop} {w w' : World} (h : R w w') : appT j R j w w' := by unfold appT; rw [if_pos rfl]; exact h
theorem appT_in {j : Nat} {R : World → World → Prop} {w w' : World} (h : appT j R j w w') : R w w' := by unfold appT at h; rw [if_pos rfl] at h; exact h
theorem appT_other {j i : Nat} {R : World → World → Prop} {w w' : World} (hi : i ≠ j) (h : Below w.heap.size w w') : appT j R i w w' := by unfold appT; rw [if_neg hi]; exact h
theorem appT_out {j i : Nat} {R : World → World → Prop} {w w' : World} (hi : i ≠ j) (h : appT j R i w w') : Below w.heap.size w w' := by unfold appT at h; rw [if_neg hi] at h; exact h
theorem wp_callx {P : Program} {o : Oper} {a : Act} {w : World} {K : Act → World → Prop} {Q : Exit → Act → World → Prop} (f : FuncId) (args : Array Operand) (tys : Array TypeId) (ho : o.op = .call { callee := .value (.func f), args := args, argTypes := tys })
    (hen : ∀ xs w, (callFunc f xs).run P w = .ok (.enter f xs) w) (xs : Array Value) (hxs : args.map a.eval = xs) {R : Value → World → Prop} (h : Calls P f xs w fun e w' => ∃ v, e = .returned v ∧ R v w') (hk : ∀ v w', R v w' → K (a.put o.dst v) w') : o.wp P a w K Q := by
  unfold Oper.wp execOp
  simp only [ho]
  simp [hxs, go_sem, hen]
  refine h.mono ?_
  rintro e w' ⟨v, rfl, hr⟩
  exact hk v w' hr
end Go.Proofs.YtalknbadakfppaaGreat
set_option linter.unusedVariables false
namespace Go.Proofs.YtalknbadakfppaaGreat
open Go.RowKit
attribute [local go_sem] Oper.semAt_some
theorem wp_store_fs {o : Oper} {a : Act} {K : Act → World → Prop} {Q : Exit → Act → World → Prop} {w : World} {p q : Tmp} (ho : o.op = .store 26 (.tmp p) (.tmp q)) {g i : Nat} {av : Option Addr} {z c : Nat} {u : Value}
    (h1 : a.eval (.tmp p) = .pointer (some ⟨g, i, none⟩)) (h2 : a.eval (.tmp q) = .slice av z c) (hc : w.cell? ⟨g, i, none⟩ = some u) (hf : w.frozen? ⟨g, i, none⟩ = false)
    (hk : K (a.put o.dst undef) (w.setCell ⟨g, i, none⟩ (.slice av z c))) : o.wp Tryz.prog a w K Q := by
  refine wp_skip (w' := w.setCell ⟨g, i, none⟩ (.slice av z c)) ?_ hk
  unfold execOp
  rw [ho]
  simp only [h1, h2]
  clear hk
  go_simp
def DocS (w0 : World) (B : Nat) (L : List Dfl) (o3 : Bool) (f3 : Int) (y : Array Value) (wz : World) : Prop := ∃ a5 n5 c5 R, TwoB w0 wz #[.slice a5 n5 c5, .bool o3, .int .i64 f3] y ∧ OwnD B wz (.slice a5 n5 c5) R ∧ RowsS (RowF w0) R L
def dkyU (w0 W4 : World) (b1 o1 z cap k : Nat) (o3 : Bool) (f3 : Int) (n : ByteArray) (f : Dfl) (uu : Option Addr) (uz uc : Nat) (fs3 : List Dfl) : Nat → Value → Value → World → Prop
  | 0 => fun v _ _ => v = .pointer (some ⟨w0.heap.size, 0, none⟩)
  | 1 => fun v _ _ => v = .slice (some ⟨b1, o1, none⟩) z cap
  | 2 => fun v _ _ => v = .string n
  | 3 => fun v _ _ => v = .pointer (some ⟨w0.heap.size, 0, none⟩)
  | 4 => fun v _ _ => v = .slice (some ⟨b1, o1, none⟩) z cap
  | 5 => fun v _ _ => v = .int .i64 k
  | 6 => fun v _ _ => v = .pointer (some ⟨b1, o1 + k * 3, none⟩)
  | 7 => fun v _ _ => v = .agg #[.string f.n, .string f.d, .slice uu uz uc]
  | 8 => fun v _ _ => v = .string (strT (seenF f))
  | 9 => fun v _ _ => v = .agg #[.string n, .string (strT (seenF f)), .slice none 0 0]
  | 10 => fun v _ wz => ∃ a5 n5 c5 R, v = .slice a5 n5 c5 ∧ OwnD W4.heap.size wz (.slice a5 n5 c5) R ∧ RowsS (RowF w0) R (withF fs3 ⟨n, strT (seenF f), []⟩)
  | 11 => fun v _ _ => v = .pointer (some ⟨w0.heap.size, 0, none⟩)
  | 12 => fun _ _ wz => DocS w0 W4.heap.size (withF fs3 ⟨n, strT (seenF f), []⟩) o3 f3 #[.slice none 0 0, .bool false, .int .i64 0] wz
  | 13 => fun _ _ wz => TwoB w0 wz #[.slice (some ⟨b1, o1, none⟩) z cap, .bool o3, .int .i64 f3] #[.slice none 0 0, .bool false, .int .i64 0] ∧ W4.heap.size ≤ wz.heap.size
  | _ => fun _ _ _ => True
def dkyN : List (List Nat) := [[], [0, 13], [], [], [3, 13], [], [4, 5], [6, 13], [7, 13], [2, 8], [1, 9, 13], [], [11, 10, 13]]
def dkyE : Nat → Option Tmp
  | _ => none
def dkyB : List (Nat × Nat) := [(12, 10), (12, 13)]
theorem dky_T (w0 W4 : World) (b1 o1 z cap k : Nat) (o3 : Bool) (f3 : Int) (n : ByteArray) (f : Dfl) (uu : Option Addr) (uz uc : Nat) (fs3 : List Dfl) (ix kx : Nat) (v e : Value) (w w' : World) (hk : kx < 14) (hne : kx ≠ ix) (hbd : (ix, kx) ∉ dkyB) (hU : (dkyU w0 W4 b1 o1 z cap k o3 f3 n f uu uz uc fs3) kx v e w) (hT : (appT 12 (fun _ _ => True)) ix w w') : (dkyU w0 W4 b1 o1 z cap k o3 f3 n f uu uz uc fs3) kx v e w' := by
  by_cases hi12 : ix = 12
  · subst hi12
    have hR := appT_in hT
    rcases (show kx = 0 ∨ kx = 1 ∨ kx = 2 ∨ kx = 3 ∨ kx = 4 ∨ kx = 5 ∨ kx = 6 ∨ kx = 7 ∨ kx = 8 ∨ kx = 9 ∨ kx = 10 ∨ kx = 11 ∨ kx = 12 ∨ kx = 13 by omega) with rfl | rfl | rfl | rfl | rfl | rfl | rfl | rfl | rfl | rfl | rfl | rfl | rfl | rfl
    iterate 10 exact hU
    · exact absurd (by decide) hbd
    · exact hU
    · exact absurd rfl hne
    · exact absurd (by decide) hbd
  have hb : Below w.heap.size w w' := appT_out hi12 hT
  rcases (show kx = 0 ∨ kx = 1 ∨ kx = 2 ∨ kx = 3 ∨ kx = 4 ∨ kx = 5 ∨ kx = 6 ∨ kx = 7 ∨ kx = 8 ∨ kx = 9 ∨ kx = 10 ∨ kx = 11 ∨ kx = 12 ∨ kx = 13 by omega) with rfl | rfl | rfl | rfl | rfl | rfl | rfl | rfl | rfl | rfl | rfl | rfl | rfl | rfl
  iterate 10 exact hU
  · exact (by obtain ⟨a5, n5, c5, R, h1, h2, h3⟩ := hU; exact ⟨a5, n5, c5, R, h1, h2.stays (hb), h3⟩)
  · exact hU
  · exact (by obtain ⟨a5, n5, c5, R, h1, h2, h3⟩ := hU; exact ⟨a5, n5, c5, R, h1.step hb, h2.stays hb, h3⟩)
  · exact ⟨hU.1.step hb, Nat.le_trans hU.2 hb.size⟩
set_option maxRecDepth 100000 in
set_option maxHeartbeats 8000000 in
theorem rSync_any (d : Dsk) (v : Value) (n : ByteArray) (w0 : World) (h : IsDfs w0 v d.fs) (hf : FitD nameB d) :
    Calls Tryz.prog 37 #[dskV v d, .string n] w0 (RetD (syncD d n) w0) := by
  have HI := Lib.hid h; have HF := Lib.hid hf
  have hl8 := hf.many
  obtain ⟨_, a, cap, hu, _, _⟩ := h
  obtain ⟨z, hz⟩ : ∃ z, z = d.fs.length := ⟨_, rfl⟩
  rw [← hz] at hu hl8
  subst hu
  have HZ := Lib.hid hz
  have CP := Lib.hid (fun W (hW : Below w0.heap.size w0 W) => rPlace_any d (.slice a z cap) n W (HI.out.stays hW))
  have CW := Lib.hid (fun W => rPower_any d a z cap W HF.out.lo HF.out.hi)
  have CX := Lib.hid (fun W (hW : Below w0.heap.size w0 W) (f : Dfl) (rf : Dfr) (hrf : RowF w0 rf f) => rWith_any (RowF w0) (fun r x h => h.1) d.fs (.slice a z cap) f rf W ((HI.out.toS fun r x h => h).stays hW) HF.out.rise (by have := HF.out.many; omega) hrf)
  clear hf hz
  obtain ⟨fs, off, fuse⟩ := d
  unfold dskV at CP CW ⊢
  dsimp only at CP CW HI HZ ⊢
  obtain ⟨V, hV⟩ : ∃ V, V = (w0.alloc (.cells #[.slice a z cap, .bool off, .int .i64 fuse] 28)).alloc (.cells #[.slice none 0 0, .bool false, .int .i64 0] 28) := ⟨_, rfl⟩
  have hT := twoB_new w0 a z cap off fuse
  rw [← hV] at hT
  have HV := Lib.hid hV; have HT := Lib.hid hT
  obtain ⟨⟨p0, p1, p2⟩, ⟨r0, r1, r2⟩, fz0, fz1⟩ := hT.cells
  clear hV hT
  have C1 := Lib.hid (CP.out V HT.out.below)
  go_enter Tryz.func37, Tryz.ntmps37
  go_wp2_with fail
  rw [← HV.out]
  go_wp2_with fail
  refine C1.out.mono ?_
  rintro e w2 ⟨r, rfl, hr, hb2⟩
  have HT2 := Lib.hid (HT.out.step hb2)
  clear p0 p1 p2 r0 r1 r2 fz0 fz1 hb2
  obtain ⟨⟨p0, p1, p2⟩, ⟨r0, r1, r2⟩, fz0, fz1⟩ := HT2.out.cells
  cases off with
  | true =>
    have HRE : Hid (syncD ⟨fs, true, fuse⟩ n = (⟨fs, true, fuse⟩, 13)) := Lib.hid (if_pos rfl)
    clear hr
    have HTR := Lib.hid (HT2.out.put1 (a' := .slice a z cap) (b' := .bool true) (c' := .int .i64 fuse))
    unfold putB at HTR
    go_wp2_with fail
    obtain ⟨_, ⟨r0', r1', r2'⟩, _, _⟩ := HTR.out.cells
    exact bodyPost_ret (v := .tuple #[.agg #[.slice a z cap, .bool true, .int .i64 fuse], .int .i64 13]) (by simp [results, Tryz.results37, go_sem, r0', r1', r2']) rfl ⟨.slice a z cap, by rw [HRE.out]; rfl, by rw [HRE.out]; exact HI.out.stays HTR.out.below, HTR.out.below⟩
  | false =>
    rcases hr with ⟨k, hk, rfl, ht, hg⟩ | ⟨rfl, hg⟩
    · have hb0 : decide ((k : Int) < 0) = false := decide_eq_false (by omega)
      have HRM : Hid (syncD ⟨fs, false, fuse⟩ n = thenD ⟨fs, false, fuse⟩ (withF fs ⟨n, strT (seenF fs[k]), []⟩)) := Lib.hid (by unfold syncD; dsimp only; rw [if_neg (by simp), hg])
      have HFK := Lib.hid (HF.out.files _ (List.getElem_mem hk))
      have hkz : k < z := by have := HZ.out; omega
      obtain ⟨_, _, _, hev, _, hc⟩ := id HI.out
      rw [← HZ.out] at hev
      cases hev
      obtain ⟨b1, o1, rfl, hbl, g1⟩ := hc (by have := HZ.out; omega)
      obtain ⟨uv, q0, q1, q2, hu⟩ := g1 k hk
      obtain ⟨uu, uc, rfl⟩ := hu.len
      obtain ⟨uz, huz⟩ : ∃ uz, uz = (fs[k]'hk).ops.length := ⟨_, rfl⟩
      rw [← huz] at q2 hu
      obtain ⟨f, hfd⟩ : ∃ f, f = fs[k]'hk := ⟨_, rfl⟩
      rw [← hfd] at q0 q1 hu HFK HRM
      have HU := Lib.hid hu
      have CS := Lib.hid (fun W (hW : Below w0.heap.size w0 W) => rSeen_any f (.slice uu uz uc) W (HU.out.stays hW) HFK.out.bytes HFK.out.ops)
      have HQ0 := Lib.hid q0; have HQ1 := Lib.hid q1; have HQ2 := Lib.hid q2
      have C2 := Lib.hid (CW.out w2)
      clear hg ht g1 hc q0 q1 q2 hu hfd huz
      go_wp2_with fail
      refine C2.out.mono ?_
      rintro e w3 ⟨rfl, hb3⟩
      have HT3 := Lib.hid (HT2.out.step hb3)
      clear hb3
      clear p0 p1 p2 r0 r1 r2 fz0 fz1
      obtain ⟨⟨p0, p1, p2⟩, ⟨r0, r1, r2⟩, fz0, fz1⟩ := HT3.out.cells
      have HPF := Lib.hid (powD_fs ⟨fs, false, fuse⟩)
      obtain ⟨pd, hpd⟩ : ∃ p, p = powD ⟨fs, false, fuse⟩ := ⟨_, rfl⟩
      rw [← hpd]
      have HPD := Lib.hid hpd
      clear hpd
      obtain ⟨⟨fs3, o3, f3⟩, pe⟩ := pd
      dsimp only at HPF HPD ⊢
      have hfs : fs3 = fs := by have := HPF.out; rw [← HPD.out] at this; exact this
      subst hfs
      by_cases hpe : pe = 0
      · subst hpe
        have HRE : Hid (syncD ⟨fs3, false, fuse⟩ n = (⟨withF fs3 ⟨n, strT (seenF f), []⟩, o3, f3⟩, 0)) := Lib.hid (by rw [HRM.out, thenD_ok (by rw [← HPD.out]), ← HPD.out])
        have HT4 := Lib.hid (HT3.out.put0 (a' := .slice (some ⟨b1, o1, none⟩) z cap) (b' := .bool o3) (c' := .int .i64 f3))
        unfold putB at HT4
        go_wp2_with fail
        obtain ⟨W4, hW4⟩ : ∃ W, W = ((w3.setCell ⟨w0.heap.size, 0, none⟩ (.slice (some ⟨b1, o1, none⟩) z cap)).setCell ⟨w0.heap.size, 1, none⟩ (.bool o3)).setCell ⟨w0.heap.size, 2, none⟩ (.int .i64 f3) := ⟨_, rfl⟩
        rw [← hW4] at HT4 ⊢
        clear hW4 p0 p1 p2 r0 r1 r2 fz0 fz1
        have HBL := Lib.hid hbl
        clear hbl
        refine wp_region_wordsG (by kernel_rfl) (by kernel_rfl) (appT 12 (fun _ _ => True)) (fun _ => True) dkyE (dkyU w0 W4 b1 o1 z cap k o3 f3 n f uu uz uc fs3) 14 dkyN [12] (by kernel_rfl) (by kernel_rfl) (by kernel_rfl)
          dkyB (by kernel_rfl) (fun ix kx v e w w' hi hk hne hb hU hT => dky_T _ _ _ _ _ _ _ _ _ _ _ _ _ _ _  ix kx v e w w' hk hne hb hU hT) (by decide) trivial (fun kx hk hge => ?hv0)
          [26, 27, 28, 29, 30, 31, 32, 33, 34, 35, 36, 37] (by kernel_rfl) (forall_ops ?steps) ?behind
        case hv0 =>
          have hge' : 13 ≤ kx := hge
          rcases (show kx = 13 by omega) with rfl
          · exact ⟨HT4.out.step (Below.refl _ _).drew, Nat.le_refl _⟩
        case steps =>
          refine ⟨?_, ?_, ?_, ?_, ?_, ?_, ?_, ?_, ?_, ?_, ?_, ?_, ?_, trivial⟩
          · refine stepG_of rfl ?_
            exact stepR_value (t := 26) (.pointer (some ⟨w0.heap.size, 0, none⟩)) rfl (fun _ => appT_other (by decide) (Below.refl _ _)) (fun ac w hG hN hO => by
              have e2 : slot ac 2 = .pointer (some ⟨w0.heap.size, 0, none⟩) := hO 2 (by kernel_rfl)
              have f2 := slot_at e2
              unfold execOp; go_simp) (fun ac w hG hN => rfl)
          · refine stepG_of rfl ?_
            exact stepR_value (t := 27) (.slice (some ⟨b1, o1, none⟩) z cap) rfl (fun _ => appT_other (by decide) (Below.refl _ _)) (fun ac w hG hN hO => by
              have e26 : slot ac 26 = .pointer (some ⟨w0.heap.size, 0, none⟩) := hN 0 (by decide)
              have hx : TwoB w0 w #[.slice (some ⟨b1, o1, none⟩) z cap, .bool o3, .int .i64 f3] #[.slice none 0 0, .bool false, .int .i64 0] ∧ W4.heap.size ≤ w.heap.size := hN 13 (by decide)
              obtain ⟨⟨p0, p1, p2⟩, _, _, _⟩ := hx.1.cells
              have q0 := (hx.1.below.cell (p := ⟨b1, o1 + k * 3, none⟩) HBL.out).trans HQ0.out
              have q1 := (hx.1.below.cell (p := ⟨b1, o1 + k * 3 + 1, none⟩) HBL.out).trans HQ1.out
              have q2 := (hx.1.below.cell (p := ⟨b1, o1 + k * 3 + 2, none⟩) HBL.out).trans HQ2.out
              have f26 := slot_at e26
              unfold execOp; go_simp) (fun ac w hG hN => rfl)
          · refine stepG_of rfl ?_
            exact stepR_value (t := 28) (.string n) rfl (fun _ => appT_other (by decide) (Below.refl _ _)) (fun ac w hG hN hO => by
              have e1 : slot ac 1 = .string n := hO 1 (by kernel_rfl)
              exact run_move_slot (.inl rfl) e1) (fun ac w hG hN => rfl)
          · refine stepG_of rfl ?_
            exact stepR_value (t := 29) (.pointer (some ⟨w0.heap.size, 0, none⟩)) rfl (fun _ => appT_other (by decide) (Below.refl _ _)) (fun ac w hG hN hO => by
              have e2 : slot ac 2 = .pointer (some ⟨w0.heap.size, 0, none⟩) := hO 2 (by kernel_rfl)
              have f2 := slot_at e2
              unfold execOp; go_simp) (fun ac w hG hN => rfl)
          · refine stepG_of rfl ?_
            exact stepR_value (t := 30) (.slice (some ⟨b1, o1, none⟩) z cap) rfl (fun _ => appT_other (by decide) (Below.refl _ _)) (fun ac w hG hN hO => by
              have e29 : slot ac 29 = .pointer (some ⟨w0.heap.size, 0, none⟩) := hN 3 (by decide)
              have hx : TwoB w0 w #[.slice (some ⟨b1, o1, none⟩) z cap, .bool o3, .int .i64 f3] #[.slice none 0 0, .bool false, .int .i64 0] ∧ W4.heap.size ≤ w.heap.size := hN 13 (by decide)
              obtain ⟨⟨p0, p1, p2⟩, _, _, _⟩ := hx.1.cells
              have q0 := (hx.1.below.cell (p := ⟨b1, o1 + k * 3, none⟩) HBL.out).trans HQ0.out
              have q1 := (hx.1.below.cell (p := ⟨b1, o1 + k * 3 + 1, none⟩) HBL.out).trans HQ1.out
              have q2 := (hx.1.below.cell (p := ⟨b1, o1 + k * 3 + 2, none⟩) HBL.out).trans HQ2.out
              have f29 := slot_at e29
              unfold execOp; go_simp) (fun ac w hG hN => rfl)
          · refine stepG_of rfl ?_
            exact stepR_value (t := 31) (.int .i64 k) rfl (fun _ => appT_other (by decide) (Below.refl _ _)) (fun ac w hG hN hO => by
              have e6 : slot ac 6 = .int .i64 k := hO 6 (by kernel_rfl)
              exact run_move_slot (.inl rfl) e6) (fun ac w hG hN => rfl)
          · refine stepG_of rfl ?_
            exact stepR_value (t := 32) (.pointer (some ⟨b1, o1 + k * 3, none⟩)) rfl (fun _ => appT_other (by decide) (Below.refl _ _)) (fun ac w hG hN hO => by
              have e30 : slot ac 30 = .slice (some ⟨b1, o1, none⟩) z cap := hN 4 (by decide)
              have e31 : slot ac 31 = .int .i64 k := hN 5 (by decide)
              have f30 := slot_at e30
              have f31 := slot_at e31
              unfold execOp; go_simp) (fun ac w hG hN => rfl)
          · refine stepG_of rfl ?_
            exact stepR_value (t := 33) (.agg #[.string f.n, .string f.d, .slice uu uz uc]) rfl (fun _ => appT_other (by decide) (Below.refl _ _)) (fun ac w hG hN hO => by
              have e32 : slot ac 32 = .pointer (some ⟨b1, o1 + k * 3, none⟩) := hN 6 (by decide)
              have hx : TwoB w0 w #[.slice (some ⟨b1, o1, none⟩) z cap, .bool o3, .int .i64 f3] #[.slice none 0 0, .bool false, .int .i64 0] ∧ W4.heap.size ≤ w.heap.size := hN 13 (by decide)
              obtain ⟨⟨p0, p1, p2⟩, _, _, _⟩ := hx.1.cells
              have q0 := (hx.1.below.cell (p := ⟨b1, o1 + k * 3, none⟩) HBL.out).trans HQ0.out
              have q1 := (hx.1.below.cell (p := ⟨b1, o1 + k * 3 + 1, none⟩) HBL.out).trans HQ1.out
              have q2 := (hx.1.below.cell (p := ⟨b1, o1 + k * 3 + 2, none⟩) HBL.out).trans HQ2.out
              have f32 := slot_at e32
              unfold execOp; go_simp) (fun ac w hG hN => rfl)
          · refine stepG_of rfl ?_
            intro ac wx hG hN hO
            have e33 : slot ac 33 = .agg #[.string f.n, .string f.d, .slice uu uz uc] := hN 7 (by decide)
            have hx : TwoB w0 wx #[.slice (some ⟨b1, o1, none⟩) z cap, .bool o3, .int .i64 f3] #[.slice none 0 0, .bool false, .int .i64 0] ∧ W4.heap.size ≤ wx.heap.size := hN 13 (by decide)
            refine wp_callx 31 _ _ rfl (enters_of Tryz.func31 (by kernel_rfl) rfl) #[.agg #[.string f.n, .string f.d, .slice uu uz uc]] (by simp [eval_slot, e33]) (R := fun v wz => v = .string (strT (seenF f)) ∧ Below wx.heap.size wx wz) ((CS.out wx hx.1.below).mono fun e wz hz => ⟨_, hz.1, rfl, hz.2⟩) ?_
            rintro v wz ⟨hv, hb⟩
            exact ⟨v, rfl, appT_other (by decide) hb, trivial, hv⟩
          · refine stepG_of rfl ?_
            exact stepR_value (t := 35) (.agg #[.string n, .string (strT (seenF f)), .slice none 0 0]) rfl (fun _ => appT_other (by decide) (Below.refl _ _)) (fun ac w hG hN hO => by
              have e28 : slot ac 28 = .string n := hN 2 (by decide)
              have e34 : slot ac 34 = .string (strT (seenF f)) := hN 8 (by decide)
              have f28 := slot_at e28
              have f34 := slot_at e34
              unfold execOp; go_simp) (fun ac w hG hN => rfl)
          · refine stepG_of rfl ?_
            intro ac wx hG hN hO
            have e27 : slot ac 27 = .slice (some ⟨b1, o1, none⟩) z cap := hN 1 (by decide)
            have e35 : slot ac 35 = .agg #[.string n, .string (strT (seenF f)), .slice none 0 0] := hN 9 (by decide)
            have hx : TwoB w0 wx #[.slice (some ⟨b1, o1, none⟩) z cap, .bool o3, .int .i64 f3] #[.slice none 0 0, .bool false, .int .i64 0] ∧ W4.heap.size ≤ wx.heap.size := hN 13 (by decide)
            refine wp_callx 34 _ _ rfl (enters_of Tryz.func34 (by kernel_rfl) rfl) #[.slice (some ⟨b1, o1, none⟩) z cap, .agg #[.string n, .string (strT (seenF f)), .slice none 0 0]] (by simp [eval_slot, e27, e35]) (R := fun v wz => ∃ R, OwnD wx.heap.size wz v R ∧ RowsS (RowF w0) R (withF fs3 ⟨n, strT (seenF f), []⟩) ∧ Below wx.heap.size wx wz) ((CX.out wx hx.1.below ⟨n, strT (seenF f), []⟩ ⟨n, strT (seenF f), none, 0, 0⟩ ⟨rfl, rfl, ops_nil _⟩).mono fun e wz hz => ?_) ?_
            · obtain ⟨v, R, h1, h2, h3, h4⟩ := hz
              exact ⟨v, h1, R, h2, h3, h4⟩
            rintro v wz ⟨R, h2, h3, hb⟩
            obtain ⟨a5, n5, c5, rfl⟩ := h2.len
            exact ⟨_, rfl, appT_other (by decide) hb, trivial, a5, n5, c5, R, rfl, ownD_low h2 hx.2, h3⟩
          · refine stepG_of rfl ?_
            exact stepR_value (t := 37) (.pointer (some ⟨w0.heap.size, 0, none⟩)) rfl (fun _ => appT_other (by decide) (Below.refl _ _)) (fun ac w hG hN hO => by
              have e2 : slot ac 2 = .pointer (some ⟨w0.heap.size, 0, none⟩) := hO 2 (by kernel_rfl)
              have f2 := slot_at e2
              unfold execOp; go_simp) (fun ac w hG hN => rfl)
          · refine stepG_of rfl ?_
            intro ac wx hG hN hO
            have e37 : slot ac 37 = .pointer (some ⟨w0.heap.size, 0, none⟩) := hN 11 (by decide)
            have h10 : ∃ a5 n5 c5 R, slot ac 36 = .slice a5 n5 c5 ∧ OwnD W4.heap.size wx (.slice a5 n5 c5) R ∧ RowsS (RowF w0) R (withF fs3 ⟨n, strT (seenF f), []⟩) := hN 10 (by decide)
            have hx : TwoB w0 wx #[.slice (some ⟨b1, o1, none⟩) z cap, .bool o3, .int .i64 f3] #[.slice none 0 0, .bool false, .int .i64 0] ∧ W4.heap.size ≤ wx.heap.size := hN 13 (by decide)
            obtain ⟨a5, n5, c5, R, e36, hO, hR⟩ := h10
            obtain ⟨⟨p0, p1, p2⟩, _, fz0, _⟩ := hx.1.cells
            refine wp_store_fs rfl (slotE e37) (slotE e36) p0 (fz0 0) ?_
            exact ⟨_, rfl, appT_at trivial, trivial, a5, n5, c5, R, hx.1.set0, ownD_set hO (show w0.heap.size < W4.heap.size by have := HT4.out.lt; omega), hR⟩
        case behind =>
          intro ac w5 hG hV hS ha
          have h9 : DocS w0 W4.heap.size (withF fs3 ⟨n, strT (seenF f), []⟩) o3 f3 #[.slice none 0 0, .bool false, .int .i64 0] w5 := hV 12 (by decide) (by decide)
          generalize slot ac = sl at ha 
          subst ha
          simp only [patchL, List.contains_cons, List.contains_nil, Nat.reduceBEq, Bool.or_false, Bool.or_true, if_true, Bool.false_eq_true, if_false, Nat.reduceAdd]
          generalize sl 26 = s26
          generalize sl 27 = s27
          generalize sl 28 = s28
          generalize sl 29 = s29
          generalize sl 30 = s30
          generalize sl 31 = s31
          generalize sl 32 = s32
          generalize sl 33 = s33
          generalize sl 34 = s34
          generalize sl 35 = s35
          generalize sl 36 = s36
          generalize sl 37 = s37
          clear hV hS
          
          have HE9 := Lib.hid h9
          clear hG h9
          obtain ⟨a5, n5, c5, R5, hT5, hO5, hR5⟩ := HE9.out
          have HT5 := Lib.hid hT5; have HO5 := Lib.hid hO5; have HR5 := Lib.hid hR5
          clear hT5 hO5 hR5
          have HLT := Lib.hid HT5.out.lt
          obtain ⟨⟨p0, p1, p2⟩, ⟨r0, r1, r2⟩, fz0, fz1⟩ := HT5.out.cells
          have HT6 := Lib.hid (HT5.out.put1 (a' := .slice a5 n5 c5) (b' := .bool o3) (c' := .int .i64 f3))
          have HO6 := Lib.hid (ownD_put (x := .slice a5 n5 c5) (y := .bool o3) (z := .int .i64 f3) HO5.out (show w0.heap.size + 1 < W4.heap.size from HT4.out.lt))
          unfold putB at HT6 HO6
          go_wp2_with fail
          obtain ⟨_, ⟨r0', r1', r2'⟩, _, _⟩ := HT6.out.cells
          exact bodyPost_ret (v := .tuple #[.agg #[.slice a5 n5 c5, .bool o3, .int .i64 f3], .int .i64 0]) (by simp [results, Tryz.results37, go_sem, r0', r1', r2']) rfl ⟨.slice a5 n5 c5, by rw [HRE.out]; rfl, by rw [HRE.out]; exact HO6.out.is HR5.out fun r x h => h.stays HT6.out.below, HT6.out.below⟩
      · have HRE : Hid (syncD ⟨fs3, false, fuse⟩ n = (⟨fs3, o3, f3⟩, pe)) := Lib.hid (by rw [HRM.out, thenD_bad (by rw [← HPD.out]; exact hpe), ← HPD.out])
        have e0 : (pe == 0) = false := by simpa using hpe
        have HT4 := Lib.hid ((HT3.out.put0 (a' := .slice (some ⟨b1, o1, none⟩) z cap) (b' := .bool o3) (c' := .int .i64 f3)).put1 (a' := .slice (some ⟨b1, o1, none⟩) z cap) (b' := .bool o3) (c' := .int .i64 f3))
        unfold putB at HT4
        clear hbl
        go_wp2_with fail
        obtain ⟨_, ⟨r0', r1', r2'⟩, _, _⟩ := HT4.out.cells
        exact bodyPost_ret (v := .tuple #[.agg #[.slice (some ⟨b1, o1, none⟩) z cap, .bool o3, .int .i64 f3], .int .i64 pe]) (by simp [results, Tryz.results37, go_sem, r0', r1', r2']) rfl ⟨.slice (some ⟨b1, o1, none⟩) z cap, by rw [HRE.out]; rfl, by rw [HRE.out]; exact HI.out.stays HT4.out.below, HT4.out.below⟩
    · have HRE : Hid (syncD ⟨fs, false, fuse⟩ n = (⟨fs, false, fuse⟩, 5)) := Lib.hid (by unfold syncD; dsimp only; rw [if_neg (by simp), hg])
      clear hg
      have HTR := Lib.hid (HT2.out.put1 (a' := .slice a z cap) (b' := .bool false) (c' := .int .i64 fuse))
      unfold putB at HTR
      go_wp2_with fail
      obtain ⟨_, ⟨r0', r1', r2'⟩, _, _⟩ := HTR.out.cells
      exact bodyPost_ret (v := .tuple #[.agg #[.slice a z cap, .bool false, .int .i64 fuse], .int .i64 5]) (by simp [results, Tryz.results37, go_sem, r0', r1', r2']) rfl ⟨.slice a z cap, by rw [HRE.out]; rfl, by rw [HRE.out]; exact HI.out.stays HTR.out.below, HTR.out.below⟩
noncomputable def sameD (d g : Dsk) : Bool := @decide (d = g) (Classical.propDecidable _)
theorem sameD_yes {d g : Dsk} (h : d = g) : sameD d g = true := @decide_eq_true _ (Classical.propDecidable _) h
theorem sameD_no {d g : Dsk} (h : d ≠ g) : sameD d g = false := @decide_eq_false _ (Classical.propDecidable _) h
def eqO (x y : Dop) : Bool := x.at_ == y.at_ && x.d.toList == y.d.toList
theorem eqO_iff {x y : Dop} : eqO x y = true ↔ x = y := by
  unfold eqO
  constructor
  · intro h
    simp only [Bool.and_eq_true, beq_iff_eq] at h
    obtain ⟨h1, h2⟩ := h
    rw [Lib.toList_data, Lib.toList_data] at h2
    cases x; cases y
    obtain rfl := h1
    congr
    exact ByteArray.ext (Array.toList_inj.1 h2)
  · rintro rfl; simp
theorem eqO_yes {x y : Dop} (h : x = y) : eqO x y = true := eqO_iff.2 h
theorem eqO_no {x y : Dop} (h : x ≠ y) : eqO x y = false := by
  rcases hb : eqO x y with _ | _
  · rfl
  · exact absurd (eqO_iff.1 hb) h
theorem neqO (x y : Dop) (w : World) : (binOp .neq 59 (dopV x) (dopV y)).run Tryz.prog w = .ok (.bool (!eqO x y)) w := by
  have hS : Tryz.prog.underlying 59 = some (.struct (Tryz.prog.fieldsOf 59)) := by kernel_rfl
  have hp : Tryz.prog.stoodInHeld 59 = false := by kernel_rfl
  have gas := Tryz.isAgg9; have gzs := Tryz.sizeOf9; have gai := Tryz.isAgg3; have gzi := Tryz.sizeOf3
  rw [run_neq_struct, show (10000 : Nat) = 9999 + 1 from rfl, run_equalIn_agg w 9999 59 _ _ hS hp]
  simp only [Program.fieldsOf, Tryz.underlying59]
  go_simp
  unfold eqO
  by_cases h0 : x.at_ = y.at_ <;> by_cases h1 : x.d.toList = y.d.toList <;> simp [h0, h1]
theorem guardO (op : BinOp) (a b : Operand) (x y : Dop) (w : World) : Sem.run Tryz.prog (eqGuard op 59 a b (dopV x) (dopV y)) w = .ok () w :=
  run_eqGuard_agg w op _ a b _ _ (by kernel_rfl)
theorem takeF_same {α : Type} {L M : List α} {k : Nat} (hk : k < L.length) (hm : k < M.length) (h : L.take k = M.take k) (h2 : L[k] = M[k]) : L.take (k + 1) = M.take (k + 1) := by
  rw [List.take_succ_eq_append_getElem hk, List.take_succ_eq_append_getElem hm, h, h2]
theorem dfl_ext {x y : Dfl} (h1 : x.n = y.n) (h2 : x.d = y.d) (h3 : x.ops = y.ops) : x = y := by cases x; cases y; simp_all
set_option maxRecDepth 100000 in
set_option maxHeartbeats 8000000 in
theorem rSameD_any (d g : Dsk) (v1 v2 : Value) (w : World) (h1 : IsDfs w v1 d.fs) (h2 : IsDfs w v2 g.fs) :
    Calls Tryz.prog 16 #[dskV v1 d, dskV v2 g] w fun e w' => e = .returned (.bool (sameD d g)) ∧ Below w.heap.size w w' := by
  have gab := Tryz.isAgg4; have gzb := Tryz.sizeOf4
  have hne' : ∀ (x y : Dop) (w : World), Sem.run Tryz.prog (binOp .neq 59 (dopV x) (dopV y)) w = .ok (.bool (!eqO x y)) w := fun x y w => neqO x y w
  have hgd' : ∀ (op : BinOp) (a b : Operand) (x y : Dop) (w : World), Sem.run Tryz.prog (eqGuard op 59 a b (dopV x) (dopV y)) w = .ok () w := fun op a b x y w => guardO op a b x y w
  obtain ⟨L, o1, f1⟩ := d
  obtain ⟨M, o2, f2⟩ := g
  dsimp only at h1 h2
  unfold dskV
  dsimp only
  have HI1 := Lib.hid h1; have HI2 := Lib.hid h2
  obtain ⟨hm1, a1, cap1, rfl, _, _⟩ := h1
  obtain ⟨hm2, a2, cap2, rfl, _, _⟩ := h2
  obtain ⟨z1, hz1⟩ : ∃ z, z = L.length := ⟨_, rfl⟩
  obtain ⟨z2, hz2⟩ : ∃ z, z = M.length := ⟨_, rfl⟩
  rw [← hz1] at HI1 hm1 ⊢
  rw [← hz2] at HI2 hm2 ⊢
  have HZ1 := Lib.hid hz1; have HZ2 := Lib.hid hz2
  have hmm1 : z1 ≤ 9223372036854775807 := by unfold maxLen at hm1; omega
  have hmm2 : z2 ≤ 9223372036854775807 := by unfold maxLen at hm2; omega
  clear hm1 hm2 hz1 hz2
  by_cases ho : o1 = o2
  · by_cases hf : f1 = f2
    · by_cases hl : z1 = z2
      · subst ho hf hl
        have q1 : (o1 == o1) = true := beq_self_eq_true _
        have q2 : (f1 == f1) = true := beq_self_eq_true _
        obtain ⟨V, hV⟩ : ∃ V, V = (w.alloc (.cells #[.slice a1 z1 cap1, .bool o1, .int .i64 f1] 28)).alloc (.cells #[.slice a2 z1 cap2, .bool o1, .int .i64 f1] 28) := ⟨_, rfl⟩
        have hb0 : Below w.heap.size w V := by rw [hV]; exact ((Below.refl _ _).alloc (Nat.le_refl _) _).alloc (by simp) _
        have hR1 : Row V w.heap.size #[.slice a1 z1 cap1, .bool o1, .int .i64 f1] 28 := by rw [hV]; exact (Row.made _ _ _).alloc _
        have hR2 : Row V (w.heap.size + 1) #[.slice a2 z1 cap2, .bool o1, .int .i64 f1] 28 := by
          rw [hV]
          have := Row.made (w.alloc (.cells #[.slice a1 z1 cap1, .bool o1, .int .i64 f1] 28)) #[.slice a2 z1 cap2, .bool o1, .int .i64 f1] 28
          simpa using this
        have HV := Lib.hid hV; have HB0 := Lib.hid hb0
        have HSZ : Hid (w.heap.size + 1 < V.heap.size) := Lib.hid hR2.lt
        have HD1 := Lib.hid (HI1.out.stays hb0); have HD2 := Lib.hid (HI2.out.stays hb0)
        have HBX : Hid (∀ W, Below V.heap.size V W → W.cell? ⟨w.heap.size, 0, none⟩ = some (.slice a1 z1 cap1) ∧ W.cell? ⟨w.heap.size + 1, 0, none⟩ = some (.slice a2 z1 cap2)) := Lib.hid (fun W hW => by
          have p0 := (hR1.step hW).cell 0; have r0 := (hR2.step hW).cell 0
          simp only [List.getElem?_toArray, List.getElem?_cons_zero] at p0 r0
          exact ⟨p0, r0⟩)
        clear hV hb0 hR1 hR2
        go_enter Tryz.func16, Tryz.ntmps16
        go_wp2_with fail
        rw [← HV.out]
        go_loopw [5] (fun i wr => ∃ k : Nat, k ≤ z1 ∧ i = .int .i64 k ∧ L.take k = M.take k ∧ Below V.heap.size V wr) (fun i _ => z1 - (intOf i).toNat)
        case atStart => exact ⟨0, Nat.zero_le _, rfl, rfl, Below.refl _ _⟩
        case round =>
          obtain ⟨k, hk, rfl, he, hB⟩ := hrel
          have HE := Lib.hid he; have HB := Lib.hid hB
          obtain ⟨p0, r0⟩ := HBX.out _ hB
          have hs1 : w.heap.size + 1 < wr.heap.size := Nat.lt_of_lt_of_le HSZ.out hB.size
          by_cases hlt : k < z1
          · have hk1 : k < L.length := by have := HZ1.out; omega
            have hk2 : k < M.length := by have := HZ2.out; omega
            obtain ⟨_, _, _, ev1, _, c1⟩ := HD1.out.stays hB
            obtain ⟨_, _, _, ev2, _, c2⟩ := HD2.out.stays hB
            rw [← HZ1.out] at ev1; rw [← HZ2.out] at ev2
            cases ev1; cases ev2
            obtain ⟨b1, i1, rfl, hl1, g1⟩ := c1 (by omega)
            obtain ⟨b2, i2, rfl, hl2, g2⟩ := c2 (by omega)
            obtain ⟨u1, x0, x1, x2, x3⟩ := g1 k hk1
            obtain ⟨u2, y0, y1, y2, y3⟩ := g2 k hk2
            have HT := Lib.hid (fun h : L[k]'hk1 = M[k]'hk2 => takeF_same hk1 hk2 HE.out h)
            have HG : Hid (L[k]'hk1 ≠ M[k]'hk2 → (⟨L, o1, f1⟩ : Dsk) ≠ ⟨M, o1, f1⟩) := Lib.hid (fun h e => h (by cases e; rfl))
            obtain ⟨x, hx⟩ : ∃ x, x = L[k]'hk1 := ⟨_, rfl⟩
            obtain ⟨y, hy⟩ : ∃ y, y = M[k]'hk2 := ⟨_, rfl⟩
            rw [← hx] at x0 x1 x3 HT HG
            rw [← hy] at y0 y1 y3 HT HG
            have hbk : decide ((k : Int) < (z1 : Int)) = true := by simpa using (show (k : Int) < z1 by omega)
            obtain ⟨e1, cc1, rfl⟩ := x3.len
            obtain ⟨e2, cc2, rfl⟩ := y3.len
            obtain ⟨X, hX⟩ : ∃ X, X = (wr.alloc (.cells #[.string x.n, .string x.d, .slice e1 x.ops.length cc1] 56)).alloc (.cells #[.string y.n, .string y.d, .slice e2 y.ops.length cc2] 56) := ⟨_, rfl⟩
            have hbX : Below wr.heap.size wr X := by rw [hX]; exact ((Below.refl _ _).alloc (Nat.le_refl _) _).alloc (by simp) _
            have hX1 : Row X wr.heap.size #[.string x.n, .string x.d, .slice e1 x.ops.length cc1] 56 := by rw [hX]; exact (Row.made _ _ _).alloc _
            have hX2 : Row X (wr.heap.size + 1) #[.string y.n, .string y.d, .slice e2 y.ops.length cc2] 56 := by
              rw [hX]
              have := Row.made (wr.alloc (.cells #[.string x.n, .string x.d, .slice e1 x.ops.length cc1] 56)) #[.string y.n, .string y.d, .slice e2 y.ops.length cc2] 56
              simpa using this
            have HXX := Lib.hid hX
            have HXB : Hid (∀ W, Below X.heap.size X W → (W.cell? ⟨wr.heap.size, 0, none⟩ = some (.string x.n) ∧ W.cell? ⟨wr.heap.size, 1, none⟩ = some (.string x.d) ∧ W.cell? ⟨wr.heap.size, 2, none⟩ = some (.slice e1 x.ops.length cc1)) ∧ (W.cell? ⟨wr.heap.size + 1, 0, none⟩ = some (.string y.n) ∧ W.cell? ⟨wr.heap.size + 1, 1, none⟩ = some (.string y.d) ∧ W.cell? ⟨wr.heap.size + 1, 2, none⟩ = some (.slice e2 y.ops.length cc2))) := Lib.hid (fun W hW => by
              have p0 := (hX1.step hW).cell 0; have p1 := (hX1.step hW).cell 1; have p2 := (hX1.step hW).cell 2
              have r0 := (hX2.step hW).cell 0; have r1 := (hX2.step hW).cell 1; have r2 := (hX2.step hW).cell 2
              simp only [List.getElem?_toArray, List.getElem?_cons_zero, List.getElem?_cons_succ] at p0 p1 p2 r0 r1 r2
              exact ⟨⟨p0, p1, p2⟩, r0, r1, r2⟩)
            have HO1 := Lib.hid (x3.stays hbX); have HO2 := Lib.hid (y3.stays hbX); have HBX2 := Lib.hid (below_step hB hbX)
            clear g1 g2 c1 c2 he hx hy hX hbX hX1 hX2 x3 y3 hB
            by_cases hn : x.n = y.n
            · have m1 := beq_str hn
              by_cases hd : x.d = y.d
              · have m2 := beq_str hd
                by_cases hol : x.ops.length = y.ops.length
                · have HND := Lib.hid (fun h : x.ops = y.ops => dfl_ext hn hd h)
                  have HOL := Lib.hid hol
                  obtain ⟨n, hnn⟩ : ∃ n, n = x.ops.length := ⟨_, rfl⟩
                  rw [← hol, ← hnn] at HXX HXB HO2 y2
                  rw [← hnn] at HO1 x2
                  have HNN := Lib.hid hnn
                  have hnm : n ≤ 9223372036854775807 := by have := HO1.out.1; unfold maxLen at this; rw [hnn]; omega
                  clear hn hd hol hnn
                  go_wp2_with fail
                  rw [← HXX.out]
                  go_loopw [8] (fun i wq => ∃ j : Nat, j ≤ n ∧ i = .int .i64 j ∧ x.ops.take j = y.ops.take j ∧ Below X.heap.size X wq) (fun i _ => n - (intOf i).toNat)
                  case atStart => exact ⟨0, Nat.zero_le _, rfl, rfl, Below.refl _ _⟩
                  case round =>
                    obtain ⟨j, hj, rfl, he, hBq⟩ := hrel
                    have HEJ := Lib.hid he; have HBQ := Lib.hid hBq
                    obtain ⟨⟨s0, s1, s2⟩, t0, t1, t2⟩ := HXB.out _ hBq
                    clear x0 x1 x2 y0 y1 y2 p0 r0
                    by_cases hlj : j < n
                    · have hj1 : j < x.ops.length := by have := HNN.out; omega
                      have hj2 : j < y.ops.length := by have := HNN.out; have := HOL.out; omega
                      obtain ⟨_, _, _, ev1, _, c1⟩ := HO1.out.stays hBq
                      obtain ⟨_, _, _, ev2, _, c2⟩ := HO2.out.stays hBq
                      rw [← HNN.out] at ev1; rw [← HOL.out, ← HNN.out] at ev2
                      cases ev1; cases ev2
                      obtain ⟨b5, i5, rfl, _, g5⟩ := c1 (by omega)
                      obtain ⟨b6, i6, rfl, _, g6⟩ := c2 (by omega)
                      obtain ⟨x0, x1⟩ := g5 j hj1
                      obtain ⟨y0, y1⟩ := g6 j hj2
                      have HTJ := Lib.hid (fun h : x.ops[j]'hj1 = y.ops[j]'hj2 => takeF_same hj1 hj2 HEJ.out h)
                      have HGJ : Hid (x.ops[j]'hj1 ≠ y.ops[j]'hj2 → (⟨L, o1, f1⟩ : Dsk) ≠ ⟨M, o1, f1⟩) := Lib.hid (fun h => HG.out fun e => h (by subst e; rfl))
                      obtain ⟨xo, hxo⟩ : ∃ xo, xo = x.ops[j]'hj1 := ⟨_, rfl⟩
                      obtain ⟨yo, hyo⟩ : ∃ yo, yo = y.ops[j]'hj2 := ⟨_, rfl⟩
                      rw [← hxo] at x0 x1 HTJ HGJ
                      rw [← hyo] at y0 y1 HTJ HGJ
                      have hbj : decide ((j : Int) < (n : Int)) = true := by simpa using (show (j : Int) < n by omega)
                      clear g5 g6 c1 c2 he hxo hyo hBq
                      by_cases hxy : xo = yo
                      · have q := eqO_yes hxy
                        have HT2 := Lib.hid (HTJ.out hxy)
                        clear hxy
                        go_wp2_with fail
                        go_quiet (fail)
                        go_wp2
                        go_roundw
                        case rel => exact ⟨j + 1, by omega, by go_num, HT2.out, below_drewN HBQ.out _⟩
                        case measure => simp [intOf]; omega
                      · have q := eqO_no hxy
                        have HN := Lib.hid (sameD_no (HGJ.out hxy))
                        clear hxy
                        go_wp2_with fail
                        go_quiet (fail)
                        go_wp2
                        go_ret
                        exact ⟨by rw [HN.out]; rfl, below_step HB0.out (below_step HBX2.out (below_drewN HBQ.out _))⟩
                    · obtain rfl : j = n := by omega
                      have hbj : decide ((j : Int) < (j : Int)) = false := by simp
                      have HTT := Lib.hid (HT.out (HND.out (by
                        have h := HEJ.out
                        rwa [List.take_of_length_le (by have := HNN.out; omega), List.take_of_length_le (by have := HNN.out; have := HOL.out; omega)] at h)))
                      have HB9 := Lib.hid (below_step HBX2.out hBq)
                      clear he hBq
                      go_wp2
                      go_roundw
                      case rel => exact ⟨k + 1, by omega, by go_num, HTT.out, HB9.out⟩
                      case measure => simp [intOf]; omega
                · have m3 : ((x.ops.length : Int) == (y.ops.length : Int)) = false := beq_eq_false_iff_ne.2 (by omega)
                  have HN := Lib.hid (sameD_no (HG.out fun e => hol (by rw [e])))
                  clear hn hd
                  go_wp2
                  go_ret
                  exact ⟨by rw [HN.out]; rfl, below_step HB0.out (by rw [← HXX.out]; exact HBX2.out)⟩
              · have m2 := bne_str hd
                have HN := Lib.hid (sameD_no (HG.out fun e => hd (by rw [e])))
                clear hn
                go_wp2
                go_ret
                exact ⟨by rw [HN.out]; rfl, below_step HB0.out (by rw [← HXX.out]; exact HBX2.out)⟩
            · have m1 := bne_str hn
              have HN := Lib.hid (sameD_no (HG.out fun e => hn (by rw [e])))
              go_wp2
              go_ret
              exact ⟨by rw [HN.out]; rfl, below_step HB0.out (by rw [← HXX.out]; exact HBX2.out)⟩
          · obtain rfl : k = z1 := by omega
            have hbk : decide ((k : Int) < (k : Int)) = false := by simp
            have HS : Hid (sameD ⟨L, o1, f1⟩ ⟨M, o1, f1⟩ = true) := Lib.hid (sameD_yes (by
              have h := HE.out
              rw [List.take_of_length_le (by have := HZ1.out; omega), List.take_of_length_le (by have := HZ2.out; omega)] at h
              rw [h]))
            clear he
            go_wp2
            go_ret
            exact ⟨by rw [HS.out]; rfl, below_step HB0.out hB⟩
      · have HN := Lib.hid (sameD_no (show (⟨L, o1, f1⟩ : Dsk) ≠ ⟨M, o2, f2⟩ from fun e => hl (by rw [HZ1.out, HZ2.out]; cases e; rfl)))
        subst ho hf
        have q3 : ((z1 : Int) == (z2 : Int)) = false := beq_eq_false_iff_ne.2 (by omega)
        go_enter Tryz.func16, Tryz.ntmps16
        go_wp2
        go_ret
        exact ⟨by rw [HN.out]; rfl, ((Below.refl _ _).alloc (Nat.le_refl _) _).alloc (by simp) _⟩
    · have HN := Lib.hid (sameD_no (show (⟨L, o1, f1⟩ : Dsk) ≠ ⟨M, o2, f2⟩ from fun e => hf (by cases e; rfl)))
      subst ho
      have q3 : (f1 == f2) = false := beq_eq_false_iff_ne.2 hf
      go_enter Tryz.func16, Tryz.ntmps16
      go_wp2
      go_ret
      exact ⟨by rw [HN.out]; rfl, ((Below.refl _ _).alloc (Nat.le_refl _) _).alloc (by simp) _⟩
  · have HN := Lib.hid (sameD_no (show (⟨L, o1, f1⟩ : Dsk) ≠ ⟨M, o2, f2⟩ from fun e => ho (by cases e; rfl)))
    have q3 : (o1 == o2) = false := beq_eq_false_iff_ne.2 ho
    go_enter Tryz.func16, Tryz.ntmps16
    go_wp2
    go_ret
    exact ⟨by rw [HN.out]; rfl, ((Below.refl _ _).alloc (Nat.le_refl _) _).alloc (by simp) _⟩
end Go.Proofs.YtalknbadakfppaaGreat
set_option linter.unusedVariables false
namespace Go.Proofs.YtalknbadakfppaaGreat
open Go.RowKit Go.Sort
attribute [local go_sem] Oper.semAt_some
theorem grown_after_Dla {a b c : World} {row : Option Nat} (h : a.grownBy b none) (k : b.grownBy c row) : a.grownBy c row :=
  ⟨k.os.trans h.os, k.tape.trans h.tape, k.output.trans h.output, Nat.le_trans h.size k.size, fun i hi hr => (k.block i (Nat.lt_of_lt_of_le hi h.size) hr).trans (h.block i hi (by simp))⟩
def OwnP15 (B : Nat) (w : World) (v : Value) (L : List Dop) : Prop := w.ownsRow B 59 2 v L.length (dopCells L)
theorem ownP15_nil (B : Nat) (w : World) : OwnP15 B w (.slice none 0 0) [] := World.ownsRow_nil _ _ _ _
theorem OwnP15.is {B : Nat} {w : World} {v : Value} {L : List Dop} (h : OwnP15 B w v L) : IsOps w v L := by
  have hlt := h.lt
  have hc := fun g hg => h.cells (g := g) hg
  rcases h.2 with ⟨rfl, h0⟩ | ⟨g, cap, cur, rfl, hb, hg, hle, hm, _⟩
  · obtain rfl := List.length_eq_zero_iff.1 h0
    exact ops_nil w
  · refine ⟨Nat.le_trans hle hm, some ⟨g, 0, none⟩, cap, rfl, ⟨fun h => (by cases h), hle⟩, fun _ => ⟨g, 0, rfl, (hlt g rfl).2, fun i hi => ?_⟩⟩
    have hh := fun j (hj : j < 2) u (hu : (dopC L[i])[j]? = some u) => hc g rfl (i * 2 + j) u (by rw [dopCells_get hi hj]; exact hu)
    refine ⟨?_, ?_⟩
    · have := hh 0 (by decide) _ rfl; rw [add_plain'] at this; exact this
    · have := hh 1 (by decide) _ rfl; rw [add_plain'] at this; exact this
theorem OwnP15.stays {B : Nat} {w w' : World} {v : Value} {L : List Dop} (h : OwnP15 B w v L) (hb : Below w.heap.size w w') : OwnP15 B w' v L :=
  World.ownsRow.kept h (grownBy_of_below hb) (by cases hv : v.ownBlock <;> simp)
theorem OwnP15.turned {B b : Nat} {w w' : World} {v : Value} {L : List Dop} (h : OwnP15 B w v L) (hb : w.grownBy w' (some b)) (hlt : b < B) : OwnP15 B w' v L :=
  World.ownsRow.kept h hb (by
    cases hv : v.ownBlock with
    | none => exact .inl rfl
    | some k =>
      refine .inr fun e => ?_
      have := (h.lt k hv).1
      cases e; omega)
theorem dop_cell_Dla {w : World} {y : Dop} {t : TypeId} : ∀ j u, (dopC y)[j]? = some u → (w.alloc (.cells #[.int .i64 y.at_, .string y.d] t)).cell? ((⟨w.heap.size, 0, none⟩ : Addr).add j) = some u := by
  intro j u hj
  match j, hj with
  | 0, hj => simp at hj; subst hj; simp [Addr.add]
  | 1, hj => simp at hj; subst hj; simp [Addr.add]
theorem wpList_append_dop {ops : Array Oper} {rest : List Oper} {o : Oper} {a : Act} {B : Nat} {w0 : World} {Q : Exit → Act → World → Prop} (hgd : o.guard = none) (s x : Operand)
    (ho : o.op = .call { callee := .builtin .append, args := #[s, x], argTypes := #[54, 54] })
    {v : Value} {M : List Dop} {y : Dop} (hown : OwnP15 B w0 v M) (hBs : B ≤ w0.heap.size) (hs : a.eval s = v)
    (hx : a.eval x = .slice (some ⟨w0.heap.size, 0, none⟩) 1 1) (hlen : M.length ≤ 1000000)
    (h : ∀ v' w', OwnP15 B w' v' (M ++ [y]) → w0.grownBy w' v.ownBlock → wpList Tryz.prog ops Q rest (a.put o.dst v') w') :
    wpList Tryz.prog ops Q (o :: rest) a (w0.alloc (.cells #[.int .i64 y.at_, .string y.d] 59)) := by
  obtain ⟨i0, hi, hz0, hz1, hz2⟩ := info_parts infoOp
  refine wpList_append_own _ hgd s x 54 ho B 59 i0 (dopV zeroDop) 2 24 Tryz.underlying54 hi hz0 hz1 hz2 rfl (by decide) v M.length (dopCells M) hs (World.ownsRow.alloc hown _) ⟨w0.heap.size, 0, none⟩ 1 1 (dopC y) hx rfl dop_cell_Dla ?_ ?_ ?_ ?_ ?_
  · intro u hu; simp at hu; rcases hu with rfl | rfl <;> rfl
  · unfold maxLen; omega
  · omega
  · simp; omega
  · intro v' w' hown' hg _
    refine h v' w' ?_ (grown_after_Dla (World.grownBy_alloc w0 _ none) hg)
    unfold OwnP15
    rw [List.length_append, dopCells_app]
    have : dopCells [y] = dopC y := List.append_nil _
    rw [this]; exact hown'
theorem OwnP15.low {B B' : Nat} {w : World} {v : Value} {L : List Dop} (h : OwnP15 B w v L) (hb : B' ≤ B) : OwnP15 B' w v L := by
  refine ⟨h.1, ?_⟩
  rcases h.2 with h2 | ⟨g, cap, cur, h3, h4, h5⟩
  · exact .inl h2
  · exact .inr ⟨g, cap, cur, h3, Nat.le_trans hb h4, h5⟩
theorem OwnP15.apart {B : Nat} {w : World} {v : Value} {L : List Dop} (h : OwnP15 B w v L) {A : Nat} {xs : Array Value} {T : TypeId} (hA : Row w A xs T) (hT : T ≠ 59) : v.ownBlock ≠ some A := fun e => by
  rcases h.2 with ⟨rfl, _⟩ | ⟨g, cap, cur, rfl, _, hg, _⟩
  · cases e
  · cases e
    rw [show w.heap[g]? = _ from hA] at hg
    cases hg; exact hT rfl
theorem cells_of_ops {w : World} {b off : Nat} {L : List Dop} (h : ∀ i (h : i < L.length), DopAt w b (off + i * 2) L[i]) : ∀ j u, (dopCells L)[j]? = some u → w.cell? ⟨b, off + j, none⟩ = some u := by
  intro j u hu
  have hj : j < L.length * 2 := by
    have := (List.getElem?_eq_some_iff.1 hu).1
    rwa [dopCells_len] at this
  obtain ⟨i, r, rfl, hr⟩ : ∃ i r, j = i * 2 + r ∧ r < 2 := ⟨j / 2, j % 2, by omega, by omega⟩
  have hi : i < L.length := by omega
  rw [dopCells_get hi hr] at hu
  obtain ⟨c0, c1⟩ := h i hi
  match r, hr, hu with
  | 0, _, hu => simp at hu; subst hu; exact c0
  | 1, _, hu => simp at hu; subst hu; rw [← Nat.add_assoc]; exact c1
set_option maxRecDepth 100000 in
set_option maxHeartbeats 2000000 in
theorem opClone_any (v : Value) (L : List Dop) (w : World) (h : IsOps w v L) (h3 : L.length ≤ 1000000) :
    Calls Tryz.prog 43 #[v] w fun e w' => ∃ v', e = .returned v' ∧ OwnP15 w.heap.size w' v' L ∧ Below w.heap.size w w' := by
  obtain ⟨hm, a, cap, rfl, ⟨hn, _⟩, hc⟩ := h
  have q22 : ∀ (w : World) (a : Option Addr) (n c n' c' : Nat), (binOp .eql 54 (.slice a n c) (.slice none n' c')).run Tryz.prog w = .ok (.bool a.isNone) w := fun w a n c n' c' => Lib.run_eql_slice_nil w _ _ a n c n' c' Tryz.underlying54
  cases a with
  | none =>
    obtain ⟨rfl, rfl⟩ := hn rfl
    go_enter Tryz.func43, Tryz.ntmps43
    go_wp2
    go_ret
    exact ⟨_, rfl, ownP15_nil _ _, Below.refl _ _⟩
  | some ad =>
    have A : Hid (∀ j u, (dopCells L)[j]? = some u → w.cell? (ad.add j) = some u) := show ∀ j u, _ from fun j u hu => by
      have h0 : 0 < L.length := by
        rcases Nat.eq_zero_or_pos L.length with e | e
        · have := (List.getElem?_eq_some_iff.1 hu).1
          rw [dopCells_len, e] at this; omega
        · exact e
      obtain ⟨b, off, e, _, g⟩ := hc h0
      cases e
      rw [add_plain']; exact cells_of_ops g j u hu
    obtain ⟨i0, hi, hz0, hz1, hz2⟩ := info_parts infoOp
    clear hc hn
    have HL := Lib.hid (dopCells_len L)
    go_enter Tryz.func43, Tryz.ntmps43
    go_wp2_with (at_builtin; refine wpList_append_own _ rfl _ _ 54 rfl w.heap.size 59 i0 (dopV zeroDop) 2 24 Tryz.underlying54 hi hz0 hz1 hz2 rfl (by decide) _ _ _ rfl (World.ownsRow_made w #[] 0 (Nat.le_refl _) (Nat.zero_le _) (by simp)) ad L.length cap (dopCells L) rfl ?qc1 ?qc2 ?qc3 ?qc4 ?qc5 ?qc6 ?_)
    case qc1 => exact HL.out
    case qc2 => intro j u hj; exact Lib.cell?_alloc_some _ (A.out j u hj)
    case qc3 => exact fun u hu => dopCells_one hu
    case qc4 => rw [Nat.zero_add]; exact hm
    case qc5 => rw [Nat.zero_add]; omega
    case qc6 => simp
    intro v' w1 hown hgrow _
    have HO : Hid (OwnP15 w.heap.size w1 v' L) := show World.ownsRow _ _ _ _ _ _ _ by simpa using hown
    clear hown
    go_wp2
    go_ret
    exact ⟨_, rfl, HO.out, ((Below.refl _ w).alloc (Nat.le_refl _) _).grown hgrow (by simp) (by intro k hk; simp [Value.ownBlock] at hk; omega)⟩
theorem OwnP15.grown {B : Nat} {w w' : World} {v : Value} {L : List Dop} {row : Option Nat} (h : OwnP15 B w v L) (hg : w.grownBy w' row) (hr : v.ownBlock = none ∨ v.ownBlock ≠ row) : OwnP15 B w' v L := World.ownsRow.kept h hg hr
theorem OwnP15.row {B : Nat} {w : World} {v : Value} {L : List Dop} (h : OwnP15 B w v L) {g : Nat} (hg : v.ownBlock = some g) : ∃ xs, Row w g xs 59 := by
  rcases h.2 with ⟨rfl, _⟩ | ⟨g', cap, cur, rfl, _, h5, _⟩
  · cases hg
  · cases hg; exact ⟨_, h5⟩
end Go.Proofs.YtalknbadakfppaaGreat
set_option linter.unusedVariables false
namespace Go.Proofs.YtalknbadakfppaaGreat
open Go.RowKit
attribute [local go_sem] Oper.semAt_some
theorem keptT_app (keep : List Bool) (o : Dop) : ∀ (P : List Dop) (n : Nat) (s : Txt), keptT keep n s (P ++ [o]) = if keep.getD (n + P.length) false then layT (keptT keep n s P) o.a o.t else keptT keep n s P
  | [], n, s => rfl
  | p :: P, n, s => by
    show keptT keep (n + 1) _ (P ++ [o]) = _
    rw [keptT_app keep o P]
    have : n + 1 + P.length = n + (p :: P).length := by rw [List.length_cons]; omega
    rw [this]; rfl
theorem opsL_cons_Dmf (f : Dfl) (l : List Dfl) : opsL (f :: l) = f.ops.length + opsL l := by unfold opsL; rw [List.map_cons, List.sum_cons]
theorem opsL_app (l : List Dfl) (f : Dfl) : opsL (l ++ [f]) = opsL l + f.ops.length := by unfold opsL; rw [List.map_append, List.sum_append]; simp
theorem crashL_app (keep : List Bool) (f : Dfl) : ∀ (l : List Dfl) (n : Nat), crashL keep n (l ++ [f]) = crashL keep n l ++ [⟨f.n, strT (keptT keep (n + opsL l) f.d.data.toList f.ops), []⟩]
  | [], n => by simp [crashL, opsL]
  | g :: l, n => by
    show _ :: crashL keep (n + g.ops.length) (l ++ [f]) = _ :: crashL keep (n + g.ops.length) l ++ _
    rw [crashL_app keep f l, opsL_cons_Dmf, List.cons_append, Nat.add_assoc]
theorem opsL_take (l : List Dfl) (k : Nat) : opsL (l.take k) ≤ opsL l := by
  have h : opsL (l.take k ++ l.drop k) = opsL (l.take k) + opsL (l.drop k) := by unfold opsL; rw [List.map_append, List.sum_append]
  rw [List.take_append_drop] at h; omega
def RetC (d : Dsk) (keep : List Bool) (w : World) (e : Ending) (w' : World) : Prop := ∃ v, e = .returned (dskV v (crashD d keep)) ∧ IsDfs w' v (crashD d keep).fs ∧ Below w.heap.size w w'
set_option maxRecDepth 100000 in
set_option maxHeartbeats 8000000 in
theorem rCrash_any (d : Dsk) (v kv : Value) (keep : List Bool) (w0 : World) (h : IsDfs w0 v d.fs) (hk : IsBls w0 kv keep) (hf : FitD nameB d) :
    Calls Tryz.prog 10 #[dskV v d, kv] w0 (RetC d keep w0) := by
  have HI := Lib.hid h; have HF := Lib.hid hf; have HKI := Lib.hid hk
  have hl8 := hf.many
  have HOM := Lib.hid (opsL_max hf)
  obtain ⟨_, a, cap, hu, _, _⟩ := h
  obtain ⟨_, ka, kcap, hku, _, _⟩ := hk
  obtain ⟨z, hz⟩ : ∃ z, z = d.fs.length := ⟨_, rfl⟩
  obtain ⟨kz, hkz⟩ : ∃ z, z = keep.length := ⟨_, rfl⟩
  rw [← hz] at hu hl8
  rw [← hkz] at hku
  subst hu hku
  have HZ := Lib.hid hz; have HKZ := Lib.hid hkz
  clear hf hz hkz
  obtain ⟨fs, off, fuse⟩ := d
  unfold dskV RetC
  dsimp only at HI HZ HOM ⊢
  obtain ⟨V, hV⟩ : ∃ V, V = (w0.alloc (.cells #[.slice a z cap, .bool off, .int .i64 fuse] 28)).alloc (.cells #[.slice none 0 0, .bool false, .int .i64 0] 28) := ⟨_, rfl⟩
  have hT := twoB_new w0 a z cap off fuse
  rw [← hV] at hT
  have HV := Lib.hid hV; have HT := Lib.hid hT
  clear hV hT
  go_enter Tryz.func10, Tryz.ntmps10
  go_wp2_with fail
  rw [← HV.out]
  go_wp2_with fail
  go_loopw [5, 6, 7] (fun o n i wr => ∃ (q : Nat) (u : Value) (R : List Dfr), q ≤ z ∧ i = .int .i64 q ∧ n = .int .i64 (opsL (fs.take q) : Nat) ∧ u = o ∧ R.length = q ∧ OwnD V.heap.size wr u R ∧ RowsS (RowF w0) R (crashL keep 0 (fs.take q)) ∧ Below V.heap.size V wr) (fun _ _ i _ => z - (intOf i).toNat)
  case atStart => exact ⟨0, _, [], Nat.zero_le _, rfl, rfl, rfl, rfl, ownD_nil _ _, trivial, Below.refl _ _⟩
  case round =>
    obtain ⟨q, u, R, hq, rfl, rfl, rfl, hRq, hO, hR, hB⟩ := hrel
    rename World => w3
    have HO := Lib.hid hO; have HR := Lib.hid hR; have HB := Lib.hid hB; have HRQ := Lib.hid hRq
    have HTR := Lib.hid (HT.out.step hB)
    obtain ⟨⟨p0, p1, p2⟩, ⟨r0, r1, r2⟩, fz0, fz1⟩ := HTR.out.cells
    clear hRq
    by_cases hlt : q < z
    · have hqo : q < fs.length := by have := HZ.out; omega
      have HTK := Lib.hid (List.take_succ_eq_append_getElem hqo)
      have HFK := Lib.hid (HF.out.files _ (List.getElem_mem hqo))
      obtain ⟨_, _, _, hev, _, hc⟩ := id HI.out
      rw [← HZ.out] at hev
      cases hev
      obtain ⟨b1, o1, rfl, hbl, g1⟩ := hc (by have := HZ.out; omega)
      obtain ⟨uv, q0, q1, q2, hu⟩ := g1 q hqo
      obtain ⟨uu, uc, rfl⟩ := hu.len
      obtain ⟨uz, huz⟩ : ∃ uz, uz = (fs[q]'hqo).ops.length := ⟨_, rfl⟩
      rw [← huz] at q2 hu
      obtain ⟨f, hfd⟩ : ∃ f, f = fs[q]'hqo := ⟨_, rfl⟩
      rw [← hfd] at q0 q1 hu HFK HTK huz
      have HU := Lib.hid hu; have HUZ := Lib.hid huz
      have HWR := Lib.hid (HTR.out.below)
      rw [← HWR.out.cell (p := ⟨b1, o1 + q * 3, none⟩) hbl] at q0
      rw [← HWR.out.cell (p := ⟨b1, o1 + q * 3 + 1, none⟩) hbl] at q1
      rw [← HWR.out.cell (p := ⟨b1, o1 + q * 3 + 2, none⟩) hbl] at q2
      have hblr : b1 < w3.heap.size := Nat.lt_of_lt_of_le hbl HWR.out.size
      have hbk : decide ((q : Int) < (z : Int)) = true := by simpa using (show (q : Int) < z by omega)
      have hul : uz ≤ 200 := by have := HFK.out.many; omega
      have HN1 : Hid (opsL (fs.take (q + 1)) = opsL (fs.take q) + uz) := Lib.hid (by rw [HTK.out, opsL_app, ← HUZ.out])
      have HC1 : Hid (crashL keep 0 (fs.take (q + 1)) = crashL keep 0 (fs.take q) ++ [⟨f.n, strT (keptT keep (opsL (fs.take q)) f.d.data.toList f.ops), []⟩]) := Lib.hid (by rw [HTK.out, crashL_app, Nat.zero_add])
      have HM : Hid (∀ m, (keptT keep (opsL (fs.take q)) f.d.data.toList (f.ops.take m)).length ≤ 262144) := Lib.hid (fun m => keptT_max (by rw [dsize]; exact HFK.out.bytes) fun o hm => opOk_len (HFK.out.ops o (List.mem_of_mem_take hm)))
      have hn9 : opsL (fs.take q) ≤ 1600 := Nat.le_trans (opsL_take fs q) HOM.out
      obtain ⟨n0, hn0⟩ : ∃ n0, n0 = opsL (fs.take q) := ⟨_, rfl⟩
      rw [← hn0] at HN1 HC1 HM hn9 ⊢
      obtain ⟨W, hW⟩ : ∃ W, W = w3.alloc (.cells #[.string f.n, .string f.d, .slice uu uz uc] 56) := ⟨_, rfl⟩
      have hbW : Below w3.heap.size w3 W := by rw [hW]; exact (Below.refl _ _).alloc (Nat.le_refl _) _
      have HBX : Hid (Row W w3.heap.size #[.string f.n, .string f.d, .slice uu uz uc] 56) := by rw [hW]; exact Lib.hid (Row.made _ _ _)
      have HW := Lib.hid hW; have HBW := Lib.hid hbW; have hbW9 := HBW
      clear g1 hc hu hfd huz hn0 hW hbW hO hR hB
      go_wp2_with fail
      rw [← HW.out]
      have m1 := HBX.out.cell 1
      simp only [List.getElem?_toArray, List.getElem?_cons_zero, List.getElem?_cons_succ] at m1
      clear p0 p1 p2 r0 r1 r2 fz0 fz1 q0 q1 q2
      go_wp2_with fail
      have hbk2 : True := trivial
      clear hbk
      go_loopw [6, 9, 10] (fun n s j w5 => ∃ (k m : Nat) (x : ByteArray), k ≤ uz ∧ j = .int .i64 k ∧ n = .int .i64 (m : Int) ∧ m = n0 + k ∧ s = .string x ∧ x = strT (keptT keep n0 f.d.data.toList (f.ops.take k)) ∧ Below W.heap.size W w5) (fun _ _ j _ => uz - (intOf j).toNat)
      case atStart => exact ⟨0, n0, f.d, Nat.zero_le _, rfl, rfl, rfl, rfl, (txt_strT _).symm, Below.refl _ _⟩
      case round =>
        obtain ⟨k, m, x, hk, rfl, rfl, hm, rfl, hx, hB5⟩ := hrel
        clear m1
        have HB5 := Lib.hid hB5; have HX := Lib.hid hx; have HMM := Lib.hid hm
        have hm9 : m ≤ 1800 := by omega
        have hXR := HBX.out.step hB5
        have m2 := hXR.cell 2
        simp only [List.getElem?_toArray, List.getElem?_cons_zero, List.getElem?_cons_succ] at m2
        have HB0 := Lib.hid (below_step HWR.out (below_step HBW.out hB5))
        by_cases hlt2 : k < uz
        · have hko : k < f.ops.length := by have := HUZ.out; omega
          obtain ⟨_, _, _, hev, _, hc⟩ := HU.out.stays HB0.out
          rw [← HUZ.out] at hev
          cases hev
          obtain ⟨b2, o2, rfl, hbl2, g1⟩ := hc (by omega)
          obtain ⟨q1, q2⟩ := g1 k hko
          have hop := HFK.out.ops _ (List.getElem_mem hko)
          have hst : f.ops.take (k + 1) = f.ops.take k ++ [f.ops[k]] := List.take_succ_eq_append_getElem hko
          obtain ⟨o, hoo⟩ : ∃ o, o = f.ops[k] := ⟨_, rfl⟩
          rw [← hoo] at q1 q2 hop hst
          rw [opOk_at hop] at q1
          have hln := opOk_len hop
          have hds : o.d.size ≤ 262144 := by unfold Dop.t at hln; rw [dsize] at hln; omega
          have hkt := keptT_app keep o (f.ops.take k) n0 f.d.data.toList
          rw [← hst, List.length_take_of_le (by omega), ← hm] at hkt
          have HKT := Lib.hid hkt
          have hbk : decide ((k : Int) < (uz : Int)) = true := by simpa using (show (k : Int) < uz by omega)
          obtain ⟨_, _, _, hkev, _, hkc⟩ := HKI.out.stays HB0.out
          rw [← HKZ.out] at hkev
          cases hkev
          by_cases hmk : m < kz
          · have hmo : m < keep.length := by have := HKZ.out; omega
            have d1 : decide ((m : Int) < (kz : Int)) = true := by simpa using (show (m : Int) < kz by omega)
            obtain ⟨b4, o4, rfl, hbl4, g4⟩ := hkc (by have := HKZ.out; omega)
            have kc := g4 m hmo
            have hgd : keep.getD m false = keep[m] := by simp [hmo]
            rw [hgd] at hkt
            cases hkb : keep[m] with
            | false =>
              rw [hkb] at kc hkt
              have HY : Hid (x = strT (keptT keep n0 f.d.data.toList (f.ops.take (k + 1)))) := Lib.hid (by rw [hkt, hx]; rfl)
              clear g1 hc hoo hop hst hln hds hkt hx hB5 hko hXR g4 hkc hgd hkb hm
              go_wp2_with fail
              go_roundw
              case rel => exact ⟨k + 1, m + 1, x, by omega, by go_num, by go_num, by have := HMM.out; omega, rfl, HY.out, HB5.out⟩
              case measure => simp [intOf]; omega
            | true =>
              rw [hkb] at kc hkt
              obtain ⟨na, hna⟩ : ∃ na, na = o.a := ⟨_, rfl⟩
              rw [← hna] at q1 hkt hln
              have hxs : x.size ≤ 262144 := by rw [hx, strT_size]; exact HM.out k
              have CL := fun W => rLay_any x na o.d W (by omega) (by omega) (by omega)
              obtain ⟨y, hy⟩ : ∃ y, y = strT (layT x.data.toList na o.d.data.toList) := ⟨_, rfl⟩
              rw [← hy] at CL
              have HY : Hid (y = strT (keptT keep n0 f.d.data.toList (f.ops.take (k + 1)))) := Lib.hid (by rw [hy, hkt, if_pos rfl, hx, strT_txt]; rfl)
              have HC := Lib.hid CL
              clear g1 hc hoo hop hst hln hds hkt hx hB5 hko hXR g4 hkc hgd hkb hm hna hxs hy CL
              have k0 := fun d os => cell_regrown m2 d os
              have k1 := fun d os => cell_regrown q1 d os
              have k2 := fun d os => cell_regrown q2 d os
              go_wp2_with fail
              refine wp_region_quiet_below (by kernel_rfl) (by kernel_rfl) ?_
              repeat (first | go_big_quiet_step (exact Calls.regrown_of (HC.out _)) | quiet_step (exact Calls.regrown_of (HC.out _)))
              refine wpQuiet_nil ?_
              intro wq hwq
              have hbq : Below wr.heap.size wr wq := by obtain ⟨p, rfl⟩ := hwq; exact below_regrown _ _ _
              clear hwq k0 k1 k2 q1 q2 m2
              have HBQ := Lib.hid (below_step HB5.out hbq)
              clear hbq
              go_wp2
              go_roundw
              case rel => exact ⟨k + 1, m + 1, y, by omega, by go_num, by go_num, by have := HMM.out; omega, rfl, HY.out, HBQ.out⟩
              case measure => simp [intOf]; omega
          · have d1 : decide ((m : Int) < (kz : Int)) = false := by simpa using (show (kz : Int) ≤ m by omega)
            have hgd : keep.getD m false = false := by
              rw [List.getD_eq_getElem?_getD, List.getElem?_eq_none (by have := HKZ.out; omega)]; rfl
            rw [hgd] at hkt
            have HY : Hid (x = strT (keptT keep n0 f.d.data.toList (f.ops.take (k + 1)))) := Lib.hid (by rw [hkt, hx]; rfl)
            clear g1 hc hoo hop hst hln hds hkt hx hB5 hko hXR hkc hgd hm
            go_wp2_with fail
            go_roundw
            case rel => exact ⟨k + 1, m + 1, x, by omega, by go_num, by go_num, by have := HMM.out; omega, rfl, HY.out, HB5.out⟩
            case measure => simp [intOf]; omega
        · obtain rfl : k = uz := by omega
          have hbk : decide ((k : Int) < (k : Int)) = false := by simp
          have HE : Hid (x = strT (keptT keep n0 f.d.data.toList f.ops)) := Lib.hid (by rw [hx, List.take_of_length_le (by have := HUZ.out; omega)])
          have m0 := hXR.cell 0
          simp only [List.getElem?_toArray, List.getElem?_cons_zero] at m0
          have HO5 := Lib.hid (HO.out.stays (below_step hbW9.out hB5))
          have HB6 := Lib.hid (below_step HB.out (below_step HBW.out hB5))
          have hRl : R.length ≤ 1000000 := by have := HRQ.out; omega
          have HRL := Lib.hid hRl
          clear hx hB5 hXR hm
          go_wp2_with (at_builtin; refine wpList_append_dfr (y := ⟨f.n, x, none, 0, 0⟩) rfl _ _ rfl HO5.out HB6.out.size rfl rfl HRL.out ?_)
          intro v7 w7 ho7 hb7
          have HO7 := Lib.hid ho7; have HB7 := Lib.hid (HB6.out.trans hb7)
          have HR7 : Hid (RowsS (RowF w0) (R ++ [⟨f.n, x, none, 0, 0⟩]) (crashL keep 0 (fs.take (q + 1)))) := Lib.hid (by rw [HC1.out, ← HE.out]; exact RowsS.snoc ⟨rfl, rfl, ops_nil _⟩ HR.out)
          clear ho7 hb7 m0 m2
          go_wp2
          go_roundw
          case rel => exact ⟨q + 1, _, _, by omega, by go_num, by rw [HN1.out, ← HMM.out], rfl, by rw [List.length_append, HRQ.out]; rfl, HO7.out, HR7.out, HB7.out⟩
          case measure => simp [intOf]; omega
    · obtain rfl : q = z := by omega
      have hbk : decide ((q : Int) < (q : Int)) = false := by simp
      have HE : Hid (RowsS (RowF w0) R (crashL keep 0 fs)) := Lib.hid (by have := HR.out; rwa [List.take_of_length_le (by have := HZ.out; omega)] at this)
      obtain ⟨a5, n5, c5, rfl⟩ := hO.len
      have HT6 := Lib.hid (HTR.out.put1 (a' := .slice a5 n5 c5) (b' := .bool false) (c' := .int .i64 (-1)))
      have HO6 := Lib.hid (ownD_put (x := .slice a5 n5 c5) (y := .bool false) (z := .int .i64 (-1)) HO.out (show w0.heap.size + 1 < V.heap.size from HT.out.lt))
      unfold putB at HT6 HO6
      clear hO hR hB
      go_wp2_with fail
      obtain ⟨_, ⟨r0', r1', r2'⟩, _, _⟩ := HT6.out.cells
      exact bodyPost_ret (v := .agg #[.slice a5 n5 c5, .bool false, .int .i64 (-1)]) (by simp [results, Tryz.results10, go_sem, r0', r1', r2']) rfl ⟨.slice a5 n5 c5, rfl, HO6.out.is HE.out fun r x h => h.stays HT6.out.below, HT6.out.below⟩
end Go.Proofs.YtalknbadakfppaaGreat
set_option linter.unusedVariables false
namespace Go.Proofs.YtalknbadakfppaaGreat
open Go.RowKit Go.Sort
attribute [local go_sem] Oper.semAt_some
def Dfr.t (r : Dfr) : Txt := r.n.data.toList
def RwAt (w : World) (b o : Nat) (r : Dfr) : Prop := w.cell? ⟨b, o, none⟩ = some (.string r.n) ∧ w.cell? ⟨b, o + 1, none⟩ = some (.string r.d) ∧ w.cell? ⟨b, o + 2, none⟩ = some (.slice r.a r.z r.c)
def IsRws (w : World) (v : Value) (L : List Dfr) : Prop :=
  L.length ≤ maxLen ∧ ∃ (a : Option Addr) (cap : Nat), v = .slice a L.length cap ∧ ((a = none → L = [] ∧ cap = 0) ∧ L.length ≤ cap) ∧ (0 < L.length → ∃ b off, a = some ⟨b, off, none⟩ ∧ b < w.heap.size ∧ ∀ i (h : i < L.length), RwAt w b (off + i * 3) L[i])
theorem RwAt.stays {w w' : World} {b o : Nat} {x : Dfr} (h : RwAt w b o x) (hlt : b < w.heap.size) (hb : Below w.heap.size w w') : RwAt w' b o x :=
  ⟨(hb.cell (p := ⟨b, _, none⟩) hlt).trans h.1, (hb.cell (p := ⟨b, _, none⟩) hlt).trans h.2.1, (hb.cell (p := ⟨b, _, none⟩) hlt).trans h.2.2⟩
theorem IsRws.stays {w w' : World} {v : Value} {L : List Dfr} (h : IsRws w v L) (hb : Below w.heap.size w w') : IsRws w' v L := by
  obtain ⟨h0, a, cap, h1, h2, h3⟩ := h
  refine ⟨h0, a, cap, h1, h2, fun hL => ?_⟩
  obtain ⟨b, off, e, hlt, hc⟩ := h3 hL
  exact ⟨b, off, e, Nat.lt_of_lt_of_le hlt hb.size, fun i hi => (hc i hi).stays hlt hb⟩
theorem OwnD.rws {B : Nat} {w : World} {v : Value} {L : List Dfr} (h : OwnD B w v L) : IsRws w v L := by
  have hlt := h.lt
  have hc := fun g hg => h.cells (g := g) hg
  rcases h.2 with ⟨rfl, h0⟩ | ⟨g, cap, cur, rfl, hb, hg, hle, hm, _⟩
  · obtain rfl := List.length_eq_zero_iff.1 h0
    exact ⟨Nat.zero_le _, none, 0, rfl, ⟨fun _ => ⟨rfl, rfl⟩, Nat.le_refl _⟩, fun h => absurd h (by simp)⟩
  · refine ⟨Nat.le_trans hle hm, some ⟨g, 0, none⟩, cap, rfl, ⟨fun h => (by cases h), hle⟩, fun _ => ⟨g, 0, rfl, (hlt g rfl).2, fun i hi => ?_⟩⟩
    have hh := fun j (hj : j < 3) u (hu : (dfrC L[i])[j]? = some u) => hc g rfl (i * 3 + j) u (by rw [dfrCells_get hi hj]; exact hu)
    refine ⟨?_, ?_, ?_⟩
    · have := hh 0 (by decide) _ rfl; rw [add_plain'] at this; exact this
    · have := hh 1 (by decide) _ rfl; rw [add_plain'] at this; exact this
    · have := hh 2 (by decide) _ rfl; rw [add_plain'] at this; exact this
theorem rows_pick {St : Dfr → Dfl → Prop} : ∀ {L : List Dfl} {P : Nat → Dfr → Prop}, (∀ i (h : i < L.length), ∃ r, St r L[i] ∧ P i r) → ∃ R, RowsS St R L ∧ ∀ i (h : i < R.length), P i R[i]
  | [], P, _ => ⟨[], trivial, fun i h => absurd h (by simp)⟩
  | x :: L, P, h => by
    obtain ⟨r, h1, h2⟩ := h 0 (by simp)
    obtain ⟨R, h3, h4⟩ := rows_pick (L := L) (P := fun i r => P (i + 1) r) (fun i hi => h (i + 1) (by simpa using hi))
    refine ⟨r :: R, ⟨h1, h3⟩, fun i hi => ?_⟩
    cases i with
    | zero => exact h2
    | succ i => exact h4 i (by simpa using hi)
theorem IsDfs.rws {w : World} {v : Value} {L : List Dfl} (h : IsDfs w v L) : ∃ R, IsRws w v R ∧ RowsS (RowF w) R L := by
  obtain ⟨h0, a, cap, h1, h2, h3⟩ := h.toS (St := RowF w) fun r x h => h
  rcases Nat.eq_zero_or_pos L.length with e | e
  · obtain rfl := List.length_eq_zero_iff.1 e
    exact ⟨[], ⟨Nat.zero_le _, a, cap, h1, ⟨fun ha => ⟨rfl, (h2.1 ha).2⟩, h2.2⟩, fun h => absurd h (by simp)⟩, trivial⟩
  · obtain ⟨b, off, e2, hlt, hc⟩ := h3 e
    obtain ⟨R, hR, hP⟩ := rows_pick (St := RowF w) (L := L) (P := fun i r => RwAt w b (off + i * 3) r) hc
    have hl := hR.len
    refine ⟨R, ⟨by rw [hl]; exact h0, a, cap, by rw [hl]; exact h1, ⟨fun ha => ?_, by rw [hl]; exact h2.2⟩, fun _ => ⟨b, off, e2, hlt, hP⟩⟩, hR⟩
    have := (h2.1 ha).1
    rw [this] at e; simp at e
theorem RowsS.imp {St St' : Dfr → Dfl → Prop} (hs : ∀ r x, St r x → St' r x) : ∀ {R : List Dfr} {L : List Dfl}, RowsS St R L → RowsS St' R L
  | [], [], _ => trivial
  | _ :: _, _ :: _, h => ⟨hs _ _ h.1, RowsS.imp hs h.2⟩
  | [], _ :: _, h => h.elim
  | _ :: _, [], h => h.elim
theorem dfrCells_one {u : Value} {L : List Dfr} (h : u ∈ dfrCells L) : u.oneCell' = true := by
  obtain ⟨x, _, hx⟩ := List.mem_flatMap.1 h
  simp at hx
  rcases hx with rfl | rfl | rfl <;> rfl
theorem cells_of_rws {w : World} {b off : Nat} {L : List Dfr} (h : ∀ i (h : i < L.length), RwAt w b (off + i * 3) L[i]) : ∀ j u, (dfrCells L)[j]? = some u → w.cell? ⟨b, off + j, none⟩ = some u := by
  intro j u hu
  have hj : j < L.length * 3 := by
    have := (List.getElem?_eq_some_iff.1 hu).1
    rwa [dfrCells_len] at this
  obtain ⟨i, r, rfl, hr⟩ : ∃ i r, j = i * 3 + r ∧ r < 3 := ⟨j / 3, j % 3, by omega, by omega⟩
  have hi : i < L.length := by omega
  rw [dfrCells_get hi hr] at hu
  obtain ⟨c0, c1, c2⟩ := h i hi
  match r, hr, hu with
  | 0, _, hu => simp at hu; subst hu; exact c0
  | 1, _, hu => simp at hu; subst hu; rw [← Nat.add_assoc]; exact c1
  | 2, _, hu => simp at hu; subst hu; rw [← Nat.add_assoc]; exact c2
set_option maxRecDepth 100000 in
set_option maxHeartbeats 2000000 in
theorem dClone_any (v : Value) (L : List Dfr) (w : World) (h : IsRws w v L) (h3 : L.length ≤ 1000000) :
    Calls Tryz.prog 42 #[v] w fun e w' => ∃ v', e = .returned v' ∧ OwnD w.heap.size w' v' L ∧ Below w.heap.size w w' := by
  obtain ⟨hm, a, cap, rfl, ⟨hn, _⟩, hc⟩ := h
  have q22 : ∀ (w : World) (a : Option Addr) (n c n' c' : Nat), (binOp .eql 26 (.slice a n c) (.slice none n' c')).run Tryz.prog w = .ok (.bool a.isNone) w := fun w a n c n' c' => Lib.run_eql_slice_nil w _ _ a n c n' c' Tryz.underlying26
  cases a with
  | none =>
    obtain ⟨rfl, rfl⟩ := hn rfl
    go_enter Tryz.func42, Tryz.ntmps42
    go_wp2
    go_ret
    exact ⟨_, rfl, ownD_nil _ _, Below.refl _ _⟩
  | some ad =>
    have A : Hid (∀ j u, (dfrCells L)[j]? = some u → w.cell? (ad.add j) = some u) := show ∀ j u, _ from fun j u hu => by
      have h0 : 0 < L.length := by
        rcases Nat.eq_zero_or_pos L.length with e | e
        · have := (List.getElem?_eq_some_iff.1 hu).1
          rw [dfrCells_len, e] at this; omega
        · exact e
      obtain ⟨b, off, e, _, g⟩ := hc h0
      cases e
      rw [add_plain']; exact cells_of_rws g j u hu
    obtain ⟨i0, hi, hz0, hz1, hz2⟩ := info_parts infoDf
    clear hc hn
    have HL := Lib.hid (dfrCells_len L)
    go_enter Tryz.func42, Tryz.ntmps42
    go_wp2_with (at_builtin; refine wpList_append_own _ rfl _ _ 26 rfl w.heap.size 56 i0 (dfrV zeroDfr) 3 56 Tryz.underlying26 hi hz0 hz1 hz2 rfl (by decide) _ _ _ rfl (World.ownsRow_made w #[] 0 (Nat.le_refl _) (Nat.zero_le _) (by simp)) ad L.length cap (dfrCells L) rfl ?qc1 ?qc2 ?qc3 ?qc4 ?qc5 ?qc6 ?_)
    case qc1 => exact HL.out
    case qc2 => intro j u hj; exact Lib.cell?_alloc_some _ (A.out j u hj)
    case qc3 => exact fun u hu => dfrCells_one hu
    case qc4 => rw [Nat.zero_add]; exact hm
    case qc5 => rw [Nat.zero_add]; omega
    case qc6 => simp
    intro v' w1 hown hgrow _
    have HO : Hid (OwnD w.heap.size w1 v' L) := show World.ownsRow _ _ _ _ _ _ _ by simpa using hown
    clear hown
    go_wp2
    go_ret
    exact ⟨_, rfl, HO.out, ((Below.refl _ w).alloc (Nat.le_refl _) _).grown hgrow (by simp) (by intro k hk; simp [Value.ownBlock] at hk; omega)⟩
def ordB_Dlb (x y : List UInt8) : Int := if x < y then -1 else if y < x then 1 else 0
theorem compare_ordB_Dlb : ∀ a b : List UInt8, Lib.compareBytes a b = ordB_Dlb a b
  | [], [] => rfl
  | [], _ :: _ => by unfold ordB_Dlb Lib.compareBytes; rw [if_pos (List.nil_lt_cons _ _)]
  | _ :: _, [] => by unfold ordB_Dlb Lib.compareBytes; rw [if_neg (List.not_lt_nil _), if_pos (List.nil_lt_cons _ _)]
  | a :: l, b :: m => by
    have ih := compare_ordB_Dlb l m
    unfold Lib.compareBytes
    rw [ih]
    unfold ordB_Dlb
    simp only [List.cons_lt_cons_iff]
    by_cases h : a < b
    · rw [if_pos h, if_pos (.inl h)]
    · by_cases h2 : b < a
      · have hne : a ≠ b := fun e => by subst e; exact h h2
        rw [if_neg h, if_pos h2, if_neg (by rintro (x | x); exact h x; exact hne x.1), if_pos (.inl h2)]
      · obtain rfl : a = b := by
          have h3 := UInt8.not_lt.1 h; have h4 := UInt8.not_lt.1 h2
          exact UInt8.le_antisymm h4 h3
        rw [if_neg h, if_neg h2]
        simp [h]
theorem ordB_lt_Dlb {x y : List UInt8} (h : x < y) : ordB_Dlb x y = -1 := if_pos h
theorem ordB_neg_Dlb (x y : List UInt8) : decide (ordB_Dlb x y < 0) = decide (x < y) := by
  unfold ordB_Dlb
  by_cases h : x < y
  · simp [h]
  · rw [if_neg h]
    by_cases h2 : y < x
    · simp [h, h2]
    · simp [h, h2]
set_option maxRecDepth 100000 in
theorem CompareString_any_Dlb (a b : ByteArray) (w : World) :
    Calls Tryz.prog 109 #[.string a, .string b] w fun e w' => e = .returned (.int .i64 (ordB_Dlb a.data.toList b.data.toList)) ∧ w = w' := by
  rw [← compare_ordB_Dlb]
  go_enter Tryz.func109, Tryz.ntmps109
  go_wp2
  rw [run_callFunc_extern Tryz.func117 (by kernel_rfl) (by kernel_rfl) (by kernel_rfl) (e := Extern.BytealgCompare.compare) (by kernel_rfl), Lib.run_compareString]
  simp only [Result.andThen]
  rw [Oper.upon_value]
  go_wp2
  go_ret
  exact ⟨rfl, rfl⟩
set_option maxRecDepth 100000 in
theorem strCompare_any_Dlb (a b : ByteArray) (w : World) :
    Calls Tryz.prog 96 #[.string a, .string b] w fun e w' => e = .returned (.int .i64 (ordB_Dlb a.data.toList b.data.toList)) ∧ w = w' := by
  have C := Lib.hid (CompareString_any_Dlb a b)
  go_enter Tryz.func96, Tryz.ntmps96
  go_wp2_with fail
  with_reducible refine (C.out _).mono ?_
  rintro e w1 ⟨rfl, rfl⟩
  go_wp2
  go_ret
  exact ⟨rfl, rfl⟩
def RiseR (R : List Dfr) : Prop := R.Pairwise fun x y => x.t < y.t
def getR (R : List Dfr) (t : Txt) : Option Dfr := R.find? fun r => decide (r.t = t)
theorem getR_some {l : List Dfr} (h : RiseR l) {t : Txt} {f : Dfr} : getR l t = some f ↔ f ∈ l ∧ f.t = t := by
  unfold getR
  constructor
  · intro g
    exact ⟨List.mem_of_find?_eq_some g, by simpa using List.find?_some g⟩
  · rintro ⟨hm, rfl⟩
    induction l with
    | nil => cases hm
    | cons x l ih =>
      obtain ⟨h1, h2⟩ := List.pairwise_cons.1 h
      rcases List.mem_cons.1 hm with rfl | hm
      · rw [List.find?_cons_of_pos (by simp)]
      · have hne : ¬ x.t = f.t := fun e => t_irrefl f.t (by have := h1 f hm; rwa [e] at this)
        rw [List.find?_cons_of_neg (by simpa using hne), ih h2 hm]
theorem getR_none {l : List Dfr} {t : Txt} : getR l t = none ↔ ∀ f ∈ l, f.t ≠ t := by
  unfold getR
  rw [List.find?_eq_none]
  exact ⟨fun h f hf e => h f hf (by simpa using e), fun h f hf e => h f hf (by simpa using e)⟩
def cntR (L : List Dfr) (t : List UInt8) : Nat := (L.takeWhile fun y => decide (y.t < t)).length
theorem cntR_le (L : List Dfr) (t : List UInt8) : cntR L t ≤ L.length := by
  unfold cntR
  exact (List.takeWhile_sublist _).length_le
theorem cntR_cons (x : Dfr) (L : List Dfr) (t : List UInt8) : cntR (x :: L) t = if x.t < t then cntR L t + 1 else 0 := by
  unfold cntR
  by_cases h : x.t < t
  · simp [h]
  · simp [h]
theorem cntR_at : ∀ {L : List Dfr}, RiseR L → ∀ (t : List UInt8) (i : Nat) (h : i < L.length), L[i].t < t ↔ i < cntR L t
  | [], _, _, i, h => absurd h (by simp)
  | x :: L, hr, t, i, h => by
    obtain ⟨h1, h2⟩ := List.pairwise_cons.1 hr
    rw [cntR_cons]
    cases i with
    | zero =>
      by_cases hx : x.t < t
      · simp [hx]
      · simp [hx]
    | succ i =>
      have hi : i < L.length := by simpa using h
      have ih := cntR_at h2 t i hi
      show L[i].t < t ↔ _
      by_cases hx : x.t < t
      · rw [if_pos hx, ih]; omega
      · rw [if_neg hx]
        exact ⟨fun e => absurd (t_trans (h1 _ (List.getElem_mem hi)) e) hx, fun e => absurd e (by omega)⟩
theorem getR_at {L : List Dfr} (hr : RiseR L) (t : List UInt8) : (∃ h : cntR L t < L.length, L[cntR L t].t = t ∧ getR L t = some L[cntR L t]) ∨ (getR L t = none ∧ ∀ h : cntR L t < L.length, L[cntR L t].t ≠ t ∧ ¬ L[cntR L t].t < t) := by
  by_cases h : cntR L t < L.length
  · have h1 : ¬ L[cntR L t].t < t := fun e => by have := (cntR_at hr t _ h).1 e; omega
    by_cases h2 : L[cntR L t].t = t
    · exact .inl ⟨h, h2, (getR_some hr).2 ⟨List.getElem_mem h, h2⟩⟩
    · refine .inr ⟨getR_none.2 fun x hx e => ?_, fun _ => ⟨h2, h1⟩⟩
      obtain ⟨i, hi, ex⟩ := List.getElem_of_mem hx
      subst ex
      rcases Nat.lt_trichotomy i (cntR L t) with c | c | c
      · have := (cntR_at hr t i hi).2 c
        rw [e] at this; exact t_irrefl _ this
      · subst c; exact h2 e
      · have := List.pairwise_iff_getElem.1 hr _ _ h hi c
        rw [e] at this; exact h1 this
  · refine .inr ⟨getR_none.2 fun x hx e => ?_, fun h' => absurd h' h⟩
    obtain ⟨i, hi, ex⟩ := List.getElem_of_mem hx
    subst ex
    have := (cntR_at hr t i hi).2 (by omega)
    rw [e] at this; exact t_irrefl _ this
set_option maxRecDepth 100000 in
theorem placeF_any (x : Dfr) (s : ByteArray) (w : World) :
    Calls Tryz.prog 95 #[dfrV x, .string s] w fun e w' => e = .returned (.int .i64 (ordB_Dlb x.t s.data.toList)) ∧ Below w.heap.size w w' := by
  have C := Lib.hid (strCompare_any_Dlb x.n s)
  rw [show x.n.data.toList = x.t from rfl] at C
  have hb0 := (Below.refl w.heap.size w).alloc (Nat.le_refl _) (.cells #[.string x.n, .string x.d, .slice x.a x.z x.c] 56)
  go_enter Tryz.func95, Tryz.ntmps95
  go_wp2_with fail
  refine (C.out _).mono ?_
  rintro e w1 ⟨rfl, rfl⟩
  go_wp2
  go_ret
  exact ⟨rfl, hb0⟩
set_option maxRecDepth 100000 in
set_option maxHeartbeats 4000000 in
theorem dSearch_any (v : Value) (L : List Dfr) (s : ByteArray) (w : World) (h : IsRws w v L) (hr : RiseR L) (h70 : L.length ≤ 1000000) :
    Calls Tryz.prog 94 #[v, .string s, .func (.func 95) #[] #[]] w fun e w' => e = .returned (.tuple #[.int .i64 (cntR L s.data.toList), .bool (getR L s.data.toList).isSome]) ∧ Below w.heap.size w w' := by
  have HI := Lib.hid h
  have P := Lib.hid (fun x w => placeF_any x s w)
  obtain ⟨hm, a, cap, rfl, _, hc⟩ := h
  clear hc
  obtain ⟨t, ht⟩ : ∃ t, t = s.data.toList := ⟨_, rfl⟩
  rw [← ht] at P ⊢
  clear ht hm
  have HAT := Lib.hid (fun i (hi : i < L.length) => cntR_at hr t i hi)
  have HF := Lib.hid (getR_at hr t)
  have hcl := cntR_le L t
  obtain ⟨n, hn⟩ : ∃ n, n = cntR L t := ⟨_, rfl⟩
  rw [← hn] at hcl HAT ⊢
  have HF2 : Hid ((∃ h : n < L.length, L[n].t = t ∧ getR L t = some L[n]) ∨ (getR L t = none ∧ ∀ h : n < L.length, L[n].t ≠ t ∧ ¬ L[n].t < t)) := Lib.hid (by subst hn; exact HF.out)
  clear hn HF hr
  go_enter Tryz.func94, Tryz.ntmps94
  go_wp2
  go_loopw [9, 10] (fun i j wr => ∃ lo hi : Nat, i = .int .i64 lo ∧ j = .int .i64 hi ∧ lo ≤ n ∧ n ≤ hi ∧ hi ≤ L.length ∧ Below w.heap.size w wr) (fun i j _ => (intOf j).toNat - (intOf i).toNat)
  case atStart => exact ⟨0, L.length, rfl, rfl, Nat.zero_le _, hcl, Nat.le_refl _, Below.refl _ _⟩
  case round =>
    obtain ⟨lo, hi, rfl, rfl, hlo, hhi, hL, hB⟩ := hrel
    by_cases hlt : lo < hi
    · have hmid : (lo + hi) / 2 < L.length := by omega
      obtain ⟨_, _, _, e, _, hc⟩ := HI.out.stays hB
      cases e
      obtain ⟨b, off, rfl, _, g⟩ := hc (by omega)
      obtain ⟨c0, c1, c2⟩ := g ((lo + hi) / 2) hmid
      clear g hc
      have hat := HAT.out _ hmid
      obtain ⟨x, hx⟩ : ∃ x, x = L[(lo + hi) / 2] := ⟨_, rfl⟩
      rw [← hx] at c0 c1 c2 hat
      clear hx
      have P1 := Lib.hid (P.out x)
      by_cases ho : x.t < t
      · have hm := hat.1 ho
        rw [ordB_lt_Dlb ho] at P1
        clear ho hat
        go_wp2_with fail
        refine (P1.out _).mono ?_
        rintro e w1 ⟨rfl, hb⟩
        have hB1 := below_step hB hb
        clear hb
        go_wp2
        go_roundw
        case rel => exact ⟨(lo + hi) / 2 + 1, hi, by go_num, rfl, by omega, hhi, hL, hB1⟩
        case measure => simp [intOf]; omega
      · have hm : n ≤ (lo + hi) / 2 := by
          rcases Nat.lt_or_ge ((lo + hi) / 2) n with e | e
          · exact absurd (hat.2 e) ho
          · exact e
        obtain ⟨o, hoo⟩ : ∃ o, o = ordB_Dlb x.t t := ⟨_, rfl⟩
        have h0 : decide (o < 0) = false := by rw [hoo, ordB_neg_Dlb]; exact decide_eq_false ho
        rw [← hoo] at P1
        clear ho hat hoo
        go_wp2_with fail
        refine (P1.out _).mono ?_
        rintro e w1 ⟨rfl, hb⟩
        have hB1 := below_step hB hb
        clear hb
        go_wp2
        go_roundw
        case rel => exact ⟨lo, (lo + hi) / 2, rfl, by go_num, hlo, hm, by omega, hB1⟩
        case measure => simp [intOf]; omega
    · obtain rfl : lo = n := by omega
      have hnlh : ¬ lo < hi := hlt
      clear hlt hlo hhi
      by_cases hlt : lo < L.length
      · have hbk : decide ((lo : Int) < (L.length : Int)) = true := decide_eq_true (by omega)
        obtain ⟨_, _, _, e, _, hc⟩ := HI.out.stays hB
        cases e
        obtain ⟨b, off, rfl, _, g⟩ := hc (by omega)
        obtain ⟨c0, c1, c2⟩ := g lo hlt
        clear g hc
        have hF := HF2.out
        obtain ⟨x, hx⟩ : ∃ x, x = L[lo] := ⟨_, rfl⟩
        have hF' : (x.t = t ∧ getR L t = some x) ∨ (getR L t = none ∧ x.t ≠ t) := by
          rcases hF with ⟨h, h1, h2⟩ | ⟨h1, h2⟩
          · exact .inl ⟨by rw [hx]; exact h1, by rw [hx]; exact h2⟩
          · exact .inr ⟨h1, by rw [hx]; exact (h2 hlt).1⟩
        rw [← hx] at c0 c1 c2
        clear hx hF
        have P1 := Lib.hid (P.out x)
        rcases hF' with ⟨h1, h2⟩ | ⟨h1, h2⟩
        · have HV : Hid ((getR L t).isSome = true) := Lib.hid (by rw [h2]; rfl)
          rw [show ordB_Dlb x.t t = 0 by rw [h1]; unfold ordB_Dlb; simp [t_irrefl]] at P1
          clear h1 h2
          go_wp2_with fail
          refine (P1.out _).mono ?_
          rintro e w1 ⟨rfl, hb⟩
          have hB1 := below_step hB hb
          clear hb
          go_wp2
          go_ret2
          exact ⟨by rw [HV.out]; rfl, hB1⟩
        · have HV : Hid ((getR L t).isSome = false) := Lib.hid (by rw [h1]; rfl)
          obtain ⟨o, hoo⟩ : ∃ o, o = ordB_Dlb x.t t := ⟨_, rfl⟩
          have ho : (o == 0) = false := beq_eq_false_iff_ne.2 (by
            rw [hoo]; unfold ordB_Dlb
            by_cases c : x.t < t
            · rw [if_pos c]; decide
            · rw [if_neg c]
              by_cases c2 : t < x.t
              · rw [if_pos c2]; decide
              · exact absurd (t_tri _ _ c c2) h2)
          rw [← hoo] at P1
          clear h1 h2 hoo
          go_wp2_with fail
          refine (P1.out _).mono ?_
          rintro e w1 ⟨rfl, hb⟩
          have hB1 := below_step hB hb
          clear hb
          go_wp2
          go_ret2
          exact ⟨by rw [HV.out]; rfl, hB1⟩
      · have hbk : decide ((lo : Int) < (L.length : Int)) = false := decide_eq_false (by omega)
        have HV : Hid ((getR L t).isSome = false) := Lib.hid (by
          rcases HF2.out with ⟨h, _⟩ | ⟨h1, _⟩
          · exact absurd h hlt
          · rw [h1]; rfl)
        go_wp2
        go_ret2
        exact ⟨by rw [HV.out]; rfl, hB⟩
end Go.Proofs.YtalknbadakfppaaGreat
set_option linter.unusedVariables false
namespace Go.Proofs.YtalknbadakfppaaGreat
open Go.RowKit
def Loose (fz : Nat × Nat) (n : Nat) : Prop := ∀ i, i < n → (decide (fz.1 ≤ i) && decide (i < fz.2)) = false
theorem loose_zero (n : Nat) : Loose (0, 0) n := fun i _ => by simp
theorem loose_edge (n : Nat) : Loose (n, n + 1) n := fun i h => by simp; omega
theorem frozen_loose {w : World} {g i : Nat} {cur : Array Value} {t : TypeId} {fz : Nat × Nat} (hg : w.heap[g]? = some (.cells cur t fz)) (hf : Loose fz cur.size) (hi : i < cur.size) : w.frozen? ⟨g, i, none⟩ = false := by
  have := hf i hi
  simp only [World.frozen?, hg]
  simpa using this
theorem run_storeCells_atE (P : Program) (g o : Nat) (t : TypeId) (fz : Nat × Nat) : ∀ (vs : List Value) (i : Nat) (cur : Array Value) (w : World), w.heap[g]? = some (.cells cur t fz) → Loose fz cur.size → o + i + vs.length ≤ cur.size → (∀ v ∈ vs, v.oneCell' = true) →
    (storeCells ⟨g, o, none⟩ vs i).run P w = .ok () (w.setRow g (cur.toList.take (o + i) ++ vs ++ cur.toList.drop (o + i + vs.length)).toArray)
  | [], i, cur, w, hg, _, _, _ => by
    simp only [storeCells, List.append_nil, List.length_nil, Nat.add_zero, List.take_append_drop, Array.toArray_toList]
    rw [setRow_self w g cur t fz hg]
    rfl
  | v :: rest, i, cur, w, hg, hf, hl, h1 => by
    have hi : o + i < cur.size := by simp at hl; omega
    have hadd : (⟨g, o, none⟩ : Addr).add i = ⟨g, o + i, none⟩ := by unfold Addr.add; split <;> simp_all
    have hcell : w.cell? ⟨g, o + i, none⟩ = some cur[o + i] := by simp [World.cell?, hg, hi]
    have hfro := frozen_loose hg hf hi
    have hst : (store ((⟨g, o, none⟩ : Addr).add i) v).run P w = .ok () (w.setRow g (cur.setIfInBounds (o + i) v)) := by
      rw [hadd, run_store P w _ v _ (h1 v (by simp)), hcell]
      simp [hfro, setCell_eq_setRow w g (o + i) cur t fz v hg]
    have ih := run_storeCells_atE P g o t fz rest (i + 1) (cur.setIfInBounds (o + i) v) (w.setRow g (cur.setIfInBounds (o + i) v)) (setRow_heap w g cur _ t _ hg) (by simpa using hf) (by simp at hl ⊢; omega) (fun x hx => h1 x (by simp [hx]))
    simp only [storeCells, Sem.run_bind, hst, Result.andThen_ok, ih, setRow_setRow]
    congr 3
    have e := list_seg_step cur.toList (o + i) v rest (by simp at hl ⊢; omega)
    simpa [Array.toList_setIfInBounds, Nat.add_assoc] using e
def ownsE (w : World) (base : Nat) (e : TypeId) (v : Value) (n : Nat) (xs : List Value) : Prop :=
  xs.length = n ∧ ∃ g cap cur fz, v = .slice (some ⟨g, 0, none⟩) n cap ∧ base ≤ g ∧ w.heap[g]? = some (.cells cur e fz) ∧ Loose fz cur.size ∧ n ≤ cap ∧ cap ≤ maxLen ∧ cur.size = cap ∧ cur.toList.take n = xs
theorem ownsE.cells {w : World} {base : Nat} {e : TypeId} {v : Value} {n : Nat} {xs : List Value} (h : ownsE w base e v n xs) : ∃ g cap, v = .slice (some ⟨g, 0, none⟩) n cap ∧ base ≤ g ∧ g < w.heap.size ∧ n ≤ cap ∧ ∀ j u, xs[j]? = some u → w.cell? ⟨g, j, none⟩ = some u := by
  obtain ⟨hl, g, cap, cur, fz, rfl, hb, hg, hf, hc, hm, hs, ht⟩ := h
  refine ⟨g, cap, rfl, hb, (Array.getElem?_eq_some_iff.1 hg).1, hc, fun j u hj => ?_⟩
  rw [cell_of_row w g j _ _ _ hg]
  have hjn : j < n := by rw [← hl]; exact (List.getElem?_eq_some_iff.1 hj).1
  rw [← ht, List.getElem?_take, if_pos hjn] at hj
  rw [← hj]; simp
theorem ownsE.step {w w' : World} {base : Nat} {e : TypeId} {v : Value} {n : Nat} {xs : List Value} (h : ownsE w base e v n xs) (hb : Below w.heap.size w w') : ownsE w' base e v n xs := by
  obtain ⟨hl, g, cap, cur, fz, rfl, h1, hg, h2⟩ := h
  exact ⟨hl, g, cap, cur, fz, rfl, h1, by rw [hb.block g (Array.getElem?_eq_some_iff.1 hg).1]; exact hg, h2⟩
theorem ownsE_conv (w : World) (e : TypeId) (s : ByteArray) (hs : s.size ≤ maxLen) (base : Nat) (hb : base ≤ w.heap.size) :
    ownsE (w.drew.alloc (.cells (bytesRow s (grownCap w s.size 0 e)) e ((bytesRow s (grownCap w s.size 0 e)).size, (bytesRow s (grownCap w s.size 0 e)).size + 1))) base e (.slice (some ⟨w.heap.size, 0, none⟩) s.size (grownCap w s.size 0 e)) s.size (s.data.toList.map fun b : UInt8 => Value.int .u8 (b.toNat : Int)) := by
  have hge := grownCap_ge w s.size 0 e
  refine ⟨by rw [List.length_map]; rfl, w.heap.size, _, _, _, rfl, hb, heap_alloc_new w.drew _, loose_edge _, hge, grownCap_le_maxLen w _ _ e hs, ?_, ?_⟩
  · simp [bytesRow] at hge ⊢; omega
  · have h1 : s.data.toList.length = s.size := by rw [Array.length_toList]; rfl
    simp [bytesRow]
theorem ownsE.below {w w1 w' : World} {base : Nat} {e : TypeId} {v : Value} {n : Nat} {xs : List Value} (h : ownsE w base e v n xs) (hb : Below base w1 w) (hz : base ≤ w.heap.size) (hg : w.grownBy w' v.ownBlock) : Below base w1 w' := by
  obtain ⟨hl, g, cap, cur, fz, rfl, h1, _⟩ := h
  exact hb.grown hg hz (fun k hk => by simp [Value.ownBlock] at hk; omega)
end Go.Proofs.YtalknbadakfppaaGreat
set_option linter.unusedVariables false
namespace Go.Proofs.YtalknbadakfppaaGreat
open Go.RowKit
attribute [local go_sem] Oper.semAt_some
def OwnB15 (B : Nat) (w : World) (v : Value) (l : Txt) : Prop := ownsE w B 5 v l.length (Lib.byteCells l)
theorem OwnB15.step {B : Nat} {w w' : World} {v : Value} {l : Txt} (h : OwnB15 B w v l) (hb : Below w.heap.size w w') : OwnB15 B w' v l := ownsE.step h hb
theorem zero_cells (n : Nat) : (Builtin.zeroCells (Value.int .u8 0).cells n).toList = Lib.byteCells (List.replicate n 0) := by
  apply List.ext_getElem?
  intro k
  simp only [Builtin.zeroCells, Lib.byteCells, Array.toList_map, Array.toList_range, List.getElem?_map]
  by_cases h : k < n
  · rw [List.getElem?_replicate, if_pos h]
    have : (Value.int .u8 0).cells.size * n = n := by show 1 * n = n; omega
    rw [List.getElem?_range (by first | (rw [this]; exact h) | (show k < n * 1; omega) | (show k < 1 * n; omega))]
    show some (((Value.int .u8 0).cells)[k % 1]!) = some (Value.int .u8 _)
    rw [Nat.mod_one]; rfl
  · rw [List.getElem?_replicate, if_neg h]
    rw [List.getElem?_eq_none (by rw [List.length_range]; first | (show n * 1 ≤ k; omega) | (show 1 * n ≤ k; omega))]; rfl
theorem run_zeros_ownE (w : World) (ty tn : TypeId) (kq kn : IntKind) (htn : Tryz.prog.underlying tn = some (.int kn)) {B : Nat} {v : Value} {l : Txt} (h : OwnB15 B w v l) (hB : B ≤ w.heap.size) (n : Nat) (hn : 0 < n) (hs : l.length + n ≤ 1000000) :
    ∃ v' w', (Builtin.append_ #[74, tn] ty #[v, .int kq n]).run Tryz.prog w = .ok v' w' ∧ OwnB15 B w' v' (l ++ List.replicate n 0) ∧ w.grownBy w' v.ownBlock := by
  obtain ⟨hxl, g, cap, cur, fz, rfl, hbg, hg, hf, hnc, hcm, hcs, htake⟩ := h
  obtain ⟨i, hi, hz0, hz1, hz2⟩ := info_parts infoByte_Dkd
  have hll : (Lib.byteCells (l ++ List.replicate n 0)).length = l.length + n := by rw [Lib.byteCells_length]; simp
  by_cases hroom : l.length + n ≤ cap
  · have hzl : (Lib.byteCells (List.replicate n (0 : UInt8))).length = n := by rw [Lib.byteCells_length]; simp
    have hfit : l.length + 0 + (Lib.byteCells (List.replicate n (0 : UInt8))).length ≤ cur.size := by rw [hzl, hcs]; omega
    have hst := run_storeCells_atE Tryz.prog g l.length 5 fz (Lib.byteCells (List.replicate n 0)) 0 cur w hg hf hfit (Lib.byteCells_one _)
    simp only [Nat.add_zero] at hst
    have hw : IntKind.i64.wrap (n : Int) = n := by rw [IntKind.wrap_i64]; omega
    have hneg : ¬ ((n : Int) < 0) := by omega
    have hns : ¬ (n * i.size = 0) := by rw [hz1]; omega
    have h48 : ¬ (281474976710656 < (n : Int) * (i.bytes : Int)) := by rw [hz2]; omega
    have hr : (Builtin.append_ #[74, tn] ty #[.slice (some ⟨g, 0, none⟩) l.length cap, .int kq n]).run Tryz.prog w = .ok (.slice (some ⟨g, 0, none⟩) (l.length + n) cap) (w.setRow g (cur.toList.take l.length ++ Lib.byteCells (List.replicate n 0) ++ cur.toList.drop (l.length + (Lib.byteCells (List.replicate n (0 : UInt8))).length)).toArray) := by
      simp [Builtin.append_, run_underlying Tryz.underlying74, run_underlying htn, sizeOf, typeInfo, zeroValue, hi, hz0, hz1, asInt, asIntOf, hw, hneg, h48, hroom, Addr.add_lit, zero_cells, hst]
      omega
    have hsz : (cur.toList.take l.length ++ Lib.byteCells (List.replicate n 0) ++ cur.toList.drop (l.length + (Lib.byteCells (List.replicate n (0 : UInt8))).length)).toArray.size = cur.size := by
      simp only [List.size_toArray, List.length_append, List.length_take, List.length_drop, Array.length_toList, hzl]
      omega
    refine ⟨_, _, hr, ⟨by rw [hll]; simp, g, cap, _, fz, by simp, hbg, setRow_heap w g cur _ _ _ hg, by rw [hsz]; exact hf, by simpa using hroom, hcm, by rw [hsz]; exact hcs, ?_⟩, ⟨rfl, rfl, rfl, by simp, fun k _ hk => setRow_other w g k _ (fun e => hk (by simp [Value.ownBlock, e]))⟩⟩
    have e1 : (cur.toList.take l.length).length = l.length := by rw [htake, Lib.byteCells_length]
    show List.take _ (cur.toList.take l.length ++ _ ++ _) = _
    rw [Lib.byteCells_append, ← htake]
    exact List.take_left' (by rw [List.length_append, e1, hzl, List.length_append, List.length_replicate])
  · have holds : ∀ j u, (Lib.byteCells l)[j]? = some u → w.cell? ((⟨g, 0, none⟩ : Addr).add j) = some u := fun j u hj => by
      have e1 : (⟨g, 0, none⟩ : Addr).add j = ⟨g, j, none⟩ := by unfold Addr.add; split <;> simp_all
      rw [e1, cell_of_row w g j _ _ _ hg]
      have hjn : j < l.length := by have := (List.getElem?_eq_some_iff.1 hj).1; rwa [Lib.byteCells_length] at this
      rw [← htake, List.getElem?_take, if_pos hjn] at hj
      rw [← hj]; simp
    have hold : (Builtin.firstCells i.size l.length (.slice (some ⟨g, 0, none⟩) l.length cap)).run Tryz.prog w.drew = .ok (Lib.byteCells l).toArray w.drew := by
      rw [hz1]
      exact run_firstCells_some w.drew 1 l.length ⟨g, 0, none⟩ l.length cap (Lib.byteCells l) (by rw [Lib.byteCells_length]; omega) holds
    have hr := Lib.run_append_grow_zeros w 74 tn ty 5 i (.int .u8 0) kq kn Tryz.underlying74 htn hi hz0 (some ⟨g, 0, none⟩) l.length cap (Lib.byteCells l) hold n hn (by omega) (by omega) (by omega) (by rw [hz2]; omega) (by rw [hz2]; exact growslice_fits (by omega) (by omega))
    have hge := grownCap_ge w (l.length + n) cap 5
    have hcm2 : grownCap w (l.length + n) cap 5 ≤ maxLen := grownCap_le_maxLen w (l.length + n) cap 5 (by unfold maxLen; omega)
    refine ⟨_, _, hr, ⟨by rw [hll]; simp, w.heap.size, _, _, _, by simp, hB, heap_alloc_new w.drew _, loose_zero _, by simpa using hge, hcm2, ?_, ?_⟩, ⟨rfl, rfl, rfl, by simp, fun k hk _ => by show (w.heap.push _)[k]? = _; rw [Array.getElem?_push, if_neg (Nat.ne_of_lt hk)]⟩⟩
    · have hz2' : ∀ m, (Builtin.zeroCells (Value.int .u8 0).cells m).size = m := fun m => by rw [← Array.length_toList, zero_cells, Lib.byteCells_length]; simp
      simp only [Array.size_append, List.size_toArray, Lib.byteCells_length, hz2']
      omega
    · simp only [Array.toList_append, zero_cells]
      rw [Lib.byteCells_append]
      exact List.take_left' (by rw [List.length_append, Lib.byteCells_length, Lib.byteCells_length, List.length_append])
theorem run_copy_ownE (w : World) {B g n cap : Nat} {l : Txt} (h : OwnB15 B w (.slice (some ⟨g, 0, none⟩) n cap) l) (a : Nat) (s : ByteArray) (ha : a + s.size ≤ l.length) :
    ∃ C, (∀ ty dT sT dCap, Tryz.prog.underlying dT = some (.slice 5) → (Builtin.copy_ #[dT, sT] ty #[.slice (some ⟨g, a, none⟩) (n - a) dCap, .string s]).run Tryz.prog w = .ok (goInt s.size) (w.setRow g C)) ∧
      OwnB15 B (w.setRow g C) (.slice (some ⟨g, 0, none⟩) n cap) (l.take a ++ s.data.toList ++ l.drop (a + s.size)) ∧ w.grownBy (w.setRow g C) (some g) := by
  obtain ⟨hxl, g', cap', cur, fz, e, hbg, hg, hf, hnc, hcm, hcs, htake⟩ := h
  cases e
  obtain ⟨i, hi, hz0, hz1, hz2⟩ := info_parts infoByte_Dkd
  have hsl : (Lib.byteCells s.data.toList).length = s.size := by rw [Lib.byteCells_length, dsize]
  have hst := run_storeCells_atE Tryz.prog g a 5 fz (Lib.byteCells s.data.toList) 0 cur w hg hf (by rw [hsl, hcs]; omega) (Lib.byteCells_one _)
  simp only [Nat.add_zero] at hst
  rw [hsl] at hst
  obtain ⟨C, hC⟩ : ∃ C, C = (cur.toList.take a ++ Lib.byteCells s.data.toList ++ cur.toList.drop (a + s.size)).toArray := ⟨_, rfl⟩
  rw [← hC] at hst
  have hCs : C.size = cur.size := by
    rw [hC]
    simp only [List.size_toArray, List.length_append, List.length_take, List.length_drop, Array.length_toList, hsl]
    omega
  have hlen : (l.take a ++ s.data.toList ++ l.drop (a + s.size)).length = l.length := by
    simp only [List.length_append, List.length_take, List.length_drop, dsize]; omega
  refine ⟨C, fun ty dT sT dCap hu => ?_, ⟨by rw [Lib.byteCells_length], g, cap, C, fz, by rw [hlen], hbg, setRow_heap w g cur _ _ _ hg, by rw [hCs]; exact hf, by rw [hlen]; exact hnc, hcm, by rw [hCs]; exact hcs, ?_⟩, ⟨rfl, rfl, rfl, by simp, fun k _ hk => setRow_other w g k _ (fun e => hk (by rw [e]))⟩⟩
  · have hmin : Nat.min s.size (l.length - a) = s.size := Nat.min_eq_left (by omega)
    have hx : List.take s.size (List.map (fun b : UInt8 => Value.int IntKind.u8 (b.toNat : Int)) s.data.toList) = Lib.byteCells s.data.toList := by
      show List.take s.size (Lib.byteCells s.data.toList) = _
      exact List.take_of_length_le (by rw [hsl]; exact Nat.le_refl _)
    simp [Builtin.copy_, run_underlying hu, Builtin.lenOf, Builtin.firstCells, sizeOf, typeInfo, hi, hmin]
    rw [hx, hst]
    simp [Result.andThen]
  · rw [hlen, hC, Lib.byteCells_append, Lib.byteCells_append]
    have e1 : Lib.byteCells (l.take a) = cur.toList.take a := by
      have : Lib.byteCells (l.take a) = (Lib.byteCells l).take a := by unfold Lib.byteCells; rw [List.map_take]
      rw [this, ← htake, List.take_take, Nat.min_eq_left (by omega)]
    have e2 : Lib.byteCells (l.drop (a + s.size)) = (cur.toList.take l.length).drop (a + s.size) := by
      rw [htake]; unfold Lib.byteCells; rw [List.map_drop]
    rw [e1, e2]
    have h1 : (cur.toList.take a).length = a := by rw [List.length_take, Array.length_toList (xs := cur)]; omega
    rw [List.take_append, List.take_append, List.take_of_length_le (by omega), List.take_of_length_le (l := Lib.byteCells s.data.toList) (by rw [hsl, h1]; omega)]
    rw [List.length_append, h1, hsl, List.drop_take]
theorem OwnB15.conv {B : Nat} {w : World} {v : Value} {l : Txt} (h : OwnB15 B w v l) : (convert 74 9 v).run Tryz.prog w = .ok (.string (strT l)) w := by
  obtain ⟨g, cap, rfl, _, _, _, hc⟩ := ownsE.cells h
  exact run_convert_bytes_back (P := Tryz.prog) w 74 9 5 ⟨g, 0, none⟩ cap l Tryz.underlying74 Tryz.underlying5 Tryz.underlying9 (fun j hj => by
    have e1 : (⟨g, 0, none⟩ : Addr).add j = ⟨g, j, none⟩ := by unfold Addr.add; split <;> simp_all
    rw [e1]
    refine hc j _ ?_
    unfold Lib.byteCells
    rw [List.getElem?_map, List.getElem?_eq_getElem hj]; rfl)
theorem take_pad (s : Txt) (a m : Nat) (h : a - s.length ≤ m) : (s ++ List.replicate m 0).take a = s.take a ++ List.replicate (a - s.length) 0 := by
  rw [List.take_append, List.take_replicate, Nat.min_eq_left h]
theorem layT_grown {s t : Txt} {a n : Nat} (h : s.length + n = a + t.length) (hn : 0 < n) : (s ++ List.replicate n 0).take a ++ t ++ (s ++ List.replicate n 0).drop (a + t.length) = layT s a t := by
  have h1 : (s ++ List.replicate n 0).drop (a + t.length) = [] := List.drop_of_length_le (by rw [List.length_append, List.length_replicate]; omega)
  have h2 : (padT s a).take a = s.take a ++ List.replicate (a - s.length) 0 := take_pad s a _ (Nat.le_refl _)
  rw [layT_over (by omega), h1, List.append_nil, h2, take_pad s a n (by omega)]
theorem inside_any (a : Int) (s : ByteArray) (w : World) (ha : a ≤ 9223372036854775807) (hs : s.size ≤ 1000000000) :
    Calls Tryz.prog 90 #[.int .i64 a, .string s] w fun e w' => e = .returned (.bool (decide (0 ≤ a ∧ a + s.size ≤ 262144))) ∧ w = w' := by
  have hw : IntKind.i64.wrap (262144 - (s.size : Int)) = 262144 - (s.size : Int) := IntWalk.i64_in _ (by omega)
  by_cases h0 : 0 ≤ a
  · by_cases h1 : a ≤ 262144 - (s.size : Int)
    · have e0 : decide (0 ≤ a) = true := decide_eq_true h0
      have e1 : decide (a ≤ 262144 - (s.size : Int)) = true := decide_eq_true h1
      have HR : Hid (decide (0 ≤ a ∧ a + s.size ≤ 262144) = true) := Lib.hid (decide_eq_true ⟨h0, by omega⟩)
      rw [HR.out]
      go_enter Tryz.func90, Tryz.ntmps90
      go_wp2
      go_ret
      exact ⟨rfl, rfl⟩
    · have e0 : decide (0 ≤ a) = true := decide_eq_true h0
      have e1 : decide (a ≤ 262144 - (s.size : Int)) = false := decide_eq_false h1
      have HR : Hid (decide (0 ≤ a ∧ a + s.size ≤ 262144) = false) := Lib.hid (decide_eq_false fun h => by omega)
      rw [HR.out]
      go_enter Tryz.func90, Tryz.ntmps90
      go_wp2
      go_ret
      exact ⟨rfl, rfl⟩
  · have e0 : decide (0 ≤ a) = false := decide_eq_false h0
    have HR : Hid (decide (0 ≤ a ∧ a + s.size ≤ 262144) = false) := Lib.hid (decide_eq_false fun h => by omega)
    rw [HR.out]
    go_enter Tryz.func90, Tryz.ntmps90
    go_wp2
    go_ret
    exact ⟨rfl, rfl⟩
theorem wpList_zeros_ownE {ops : Array Oper} {rest : List Oper} {o : Oper} {a : Act} {w : World} {Q : Exit → Act → World → Prop} (hgd : o.guard = none) (s x : Operand)
    (ho : o.op = .call { callee := .builtin .append, args := #[s, x], argTypes := #[74, 3] })
    {B : Nat} {v : Value} {l : Txt} (hown : OwnB15 B w v l) (hB : B ≤ w.heap.size) (n : Nat) (hn : 0 < n) (hlen : l.length + n ≤ 1000000) (hs : a.eval s = v) (hx : a.eval x = .int .i64 (n : Int))
    (h : ∀ v' w', OwnB15 B w' v' (l ++ List.replicate n 0) → w.grownBy w' v.ownBlock → wpList Tryz.prog ops Q rest (a.put o.dst v') w') :
    wpList Tryz.prog ops Q (o :: rest) a w := by
  obtain ⟨v', w', hr, h1, h2⟩ := run_zeros_ownE w o.type 3 .i64 .i64 Tryz.underlying3 hown hB n hn hlen
  refine wpList_plain hgd fun K hK => ?_
  unfold Oper.wp execOp
  simp only [ho, resolve, invoke, builtin, Sem.run_bind, Sem.run_pure, Result.andThen_ok, List.map_toArray, List.map_cons, List.map_nil, hs, hx, hr]
  exact hK _ _ (h v' w' h1 h2)
theorem wpList_copy_run_Dlf {P : Program} (w : World) {ops : Array Oper} {rest : List Oper} {o : Oper} {a : Act} {Q : Exit → Act → World → Prop} (hgd : o.guard = none) (d s : Operand) (t t' : TypeId)
    (ho : o.op = .call { callee := .builtin .copy, args := #[d, s], argTypes := #[t, t'] }) (v u : Value) (hd : a.eval d = v) (hs : a.eval s = u) {v' : Value} {w' : World}
    (hr : (Builtin.copy_ #[t, t'] o.type #[v, u]).run P w = .ok v' w') (h : wpList P ops Q rest (a.put o.dst v') w') : wpList P ops Q (o :: rest) a w := by
  refine wpList_plain hgd fun _ hK => ?_
  unfold Oper.wp execOp
  simp only [ho, resolve, invoke, builtin, Sem.run_bind, Sem.run_pure, Result.andThen_ok, List.map_toArray, List.map_cons, List.map_nil, hd, hs, hr]
  exact hK _ _ h
def RetB (B : Nat) (w : World) (l : Txt) (e : Ending) (w' : World) : Prop := ∃ v', e = .returned v' ∧ OwnB15 B w' v' l ∧ Below B w w'
set_option maxRecDepth 100000 in
set_option maxHeartbeats 4000000 in
theorem laid_any (B : Nat) (v : Value) (l : Txt) (a : Nat) (s : ByteArray) (w : World) (h : OwnB15 B w v l) (hB : B ≤ w.heap.size) (hl : l.length ≤ 262144) (ha : a + s.size ≤ 262144) (hs : s.size ≠ 0) :
    Calls Tryz.prog 97 #[v, .agg #[.int .i64 (a : Int), .string s]] w (RetB B w (layT l a s.data.toList)) := by
  have CI := Lib.hid (fun W => inside_any (a : Int) s W (by omega) (by omega))
  have HIN : Hid (decide (0 ≤ (a : Int) ∧ (a : Int) + s.size ≤ 262144) = true) := Lib.hid (decide_eq_true ⟨by omega, by omega⟩)
  rw [HIN.out] at CI
  obtain ⟨V, hV⟩ : ∃ V, V = w.alloc (.cells #[.int .i64 (a : Int), .string s] 59) := ⟨_, rfl⟩
  have hbV : Below w.heap.size w V := by rw [hV]; exact (Below.refl _ _).alloc (Nat.le_refl _) _
  have hR : Row V w.heap.size #[.int .i64 (a : Int), .string s] 59 := by rw [hV]; exact Row.made _ _ _
  have HV := Lib.hid hV; have HO := Lib.hid (h.step hbV)
  have hVB : B ≤ V.heap.size := Nat.le_trans hB hbV.size
  have HBV : Hid (Below B w V) := Lib.hid (by rw [hV]; exact (Below.refl _ _).alloc hB _)
  obtain ⟨g, cap, rfl, hbg, hgl, hnc, _⟩ := ownsE.cells h
  have p0 := hR.cell 0; have p1 := hR.cell 1
  simp only [List.getElem?_toArray, List.getElem?_cons_zero, List.getElem?_cons_succ] at p0 p1
  have HP0 := Lib.hid p0; have HP1 := Lib.hid p1
  have hbl : w.heap.size < V.heap.size := hR.lt
  have hadd : IntKind.i64.wrap ((a : Int) + (s.size : Int)) = (a : Int) + (s.size : Int) := IntWalk.i64_in _ (by omega)
  have HST := Lib.hid (dsize s)
  -- the bytes laid, in a row that has room
  have HLAY : Hid (∀ (W : World) (g' cap' : Nat) (l' : Txt), OwnB15 B W (.slice (some ⟨g', 0, none⟩) l'.length cap') l' → Below B w W → a + s.size ≤ l'.length → l'.take a ++ s.data.toList ++ l'.drop (a + s.data.toList.length) = layT l a s.data.toList →
      ∃ C, (∀ ty dCap, (Builtin.copy_ #[74, 9] ty #[.slice (some ⟨g', a, none⟩) (l'.length - a) dCap, .string s]).run Tryz.prog W = .ok (goInt s.size) (W.setRow g' C)) ∧
        OwnB15 B (W.setRow g' C) (.slice (some ⟨g', 0, none⟩) l'.length cap') (layT l a s.data.toList) ∧ Below B w (W.setRow g' C)) := Lib.hid fun W g' cap' l' h1 h2 h3 h4 => by
    obtain ⟨C, c1, c2, c3⟩ := run_copy_ownE W h1 a s h3
    obtain ⟨_, _, _, hbg', _⟩ := ownsE.cells h1
    have hgg : B ≤ g' := by
      obtain ⟨g2, cap2, e, hb2, _⟩ := ownsE.cells h1
      cases e; exact hb2
    rw [dsize] at h4
    exact ⟨C, fun ty dCap => c1 ty _ _ dCap Tryz.underlying74, by rw [← h4]; exact c2, h2.grown c3 (Nat.le_trans hB h2.size) (fun j hj => by cases hj; exact hgg)⟩
  clear hV hR h hbV hnc p0 p1
  by_cases hgr : l.length < a + s.size
  · obtain ⟨n, hn⟩ : ∃ n, n = a + s.size - l.length := ⟨_, rfl⟩
    have hsub : IntKind.i64.wrap ((a : Int) + (s.size : Int) - (l.length : Int)) = (n : Int) := by rw [IntWalk.i64_in _ (by omega)]; omega
    have e1 : decide ((l.length : Int) < (a : Int) + (s.size : Int)) = true := decide_eq_true (by omega)
    have hn0 : 0 < n := by omega
    have hln : l.length + n ≤ 1000000 := by omega
    have HSUM : Hid (l.length + n = a + s.size) := Lib.hid (by omega)
    have p0 := HP0.out; have p1 := HP1.out
    have hgb : g ≠ w.heap.size := by omega
    clear hn
    go_enter Tryz.func97, Tryz.ntmps97
    go_wp2_with fail
    rw [← HV.out]
    go_wp2_with fail
    refine (CI.out _).mono ?_
    rintro e W ⟨rfl, rfl⟩
    go_wp2_with (at_builtin; go_loud (refine wpList_zeros_ownE rfl _ _ rfl HO.out hVB n hn0 hln rfl rfl ?_))
    intro v2 W2 ho2 hg2
    have q0 := hg2.cell HP0.out (fun e => hgb (by cases e; rfl))
    have q1 := hg2.cell HP1.out (fun e => hgb (by cases e; rfl))
    have hb2 : Below B w W2 := HBV.out.grown hg2 hVB (fun j hj => by cases hj; exact hbg)
    obtain ⟨g2, cap2, rfl, hbg2, hgl2, hnc2, _⟩ := ownsE.cells ho2
    have hll : (l ++ List.replicate n 0).length = a + s.size := by rw [List.length_append, List.length_replicate]; exact HSUM.out
    obtain ⟨C, c1, c2, c3⟩ := HLAY.out W2.drew g2 cap2 (l ++ List.replicate n 0) (ho2.step (Below.refl _ _).drew) hb2.drew (by omega) (layT_grown (by rw [dsize]; exact HSUM.out) hn0)
    have HC1 := Lib.hid c1; have HC2 := Lib.hid c2; have HC3 := Lib.hid c3
    have t1 : (a : Int) ≤ ((l ++ List.replicate n 0).length : Int) := by omega
    have t2 : ¬ cap2 = a := by omega
    have t3 : cap2 ≤ 9223372036854775807 := by
      obtain ⟨_, _, _, _, _, e, _, _, _, _, h, _⟩ := ho2
      cases e; unfold maxLen at h; omega
    obtain ⟨n2, hn2⟩ : ∃ n2, n2 = (l ++ List.replicate n 0).length := ⟨_, rfl⟩
    rw [← hn2] at HC1 HC2 t1 ⊢
    rw [← hn2] at hnc2
    clear hll hn2
    clear ho2 hg2 c1 c2 c3 p0 p1 HO HP0 HP1 HLAY e1
    go_wp2_with fail
    go_still_tail 6, (by kernel_rfl)
    change wpList _ _ _ _ _ W2.drew
    go_wp2_with (refine wpList_copy_run_Dlf (o := ⟨some 35, _, _, _, _, _⟩) _ rfl (.tmp 32) (.tmp 34) 74 9 rfl _ _ rfl rfl (HC1.out _ _) ?_)
    go_ret
    exact ⟨_, rfl, HC2.out, HC3.out⟩
  · have e1 : decide ((l.length : Int) < (a : Int) + (s.size : Int)) = false := decide_eq_false (by omega)
    have p0 := HP0.out; have p1 := HP1.out
    obtain ⟨C, c1, c2, c3⟩ := HLAY.out V.drew g cap l (HO.out.step (Below.refl _ _).drew) HBV.out.drew (by omega) (layT_in (by omega)).symm
    have HC1 := Lib.hid c1; have HC2 := Lib.hid c2; have HC3 := Lib.hid c3
    have hnc : l.length ≤ cap := by
      obtain ⟨_, _, e, _, _, h, _⟩ := ownsE.cells HO.out
      cases e; exact h
    have t1 : (a : Int) ≤ (l.length : Int) := by omega
    have t2 : ¬ cap = a := by omega
    have t3 : cap ≤ 9223372036854775807 := by
      obtain ⟨_, _, _, _, _, e, _, _, _, _, h, _⟩ := HO.out
      cases e; unfold maxLen at h; omega
    clear c1 c2 c3 HP0 HP1 HLAY
    go_enter Tryz.func97, Tryz.ntmps97
    go_wp2_with fail
    rw [← HV.out]
    go_wp2_with fail
    refine (CI.out _).mono ?_
    rintro e W ⟨rfl, rfl⟩
    go_wp2_with fail
    go_still_tail 6, (by kernel_rfl)
    change wpList _ _ _ _ _ V.drew
    go_wp2_with (refine wpList_copy_run_Dlf (o := ⟨some 35, _, _, _, _, _⟩) _ rfl (.tmp 32) (.tmp 34) 74 9 rfl _ _ rfl rfl (HC1.out _ _) ?_)
    go_ret
    exact ⟨_, rfl, HC2.out, HC3.out⟩
theorem conv_str_Dlg (w : World) (s : ByteArray) : (convert 9 74 (.string s)).run Tryz.prog w = .ok (.slice (some ⟨w.heap.size, 0, none⟩) s.size (grownCap w s.size 0 5))
      (w.drew.alloc (.cells (bytesRow s (grownCap w s.size 0 5)) 5 ((bytesRow s (grownCap w s.size 0 5)).size, (bytesRow s (grownCap w s.size 0 5)).size + 1))) :=
  run_bytes_of_string w 9 74 5 s Tryz.underlying9 Tryz.underlying74 Tryz.underlying5
set_option maxRecDepth 100000 in
set_option maxHeartbeats 4000000 in
theorem seen_any (f : Dfl) (u : Value) (w : World) (h : IsOps w u f.ops) (hd : f.d.size ≤ 262144) (ho : ∀ o ∈ f.ops, opOk o) :
    Calls Tryz.prog 74 #[.agg #[.string f.n, .string f.d, u]] w fun e w' => e = .returned (.string (strT (seenF f))) ∧ Below w.heap.size w w' := by
  obtain ⟨V, hV⟩ : ∃ V, V = w.alloc (.cells #[.string f.n, .string f.d, u] 56) := ⟨_, rfl⟩
  have hbV : Below w.heap.size w V := by rw [hV]; exact (Below.refl _ _).alloc (Nat.le_refl _) _
  have hR : Row V w.heap.size #[.string f.n, .string f.d, u] 56 := by rw [hV]; exact Row.made _ _ _
  have HV := Lib.hid hV; have HI := Lib.hid (h.stays hbV); have HO := Lib.hid ho; have HB0 := Lib.hid hbV
  have HM : Hid (∀ k, (seenT f.d.data.toList (f.ops.take k)).length ≤ 262144) := Lib.hid (fun k => seenT_max (by rw [dsize]; exact hd) fun o hm => opOk_len (ho o (List.mem_of_mem_take hm)))
  obtain ⟨hml, a, cap, hu, _, _⟩ := h
  obtain ⟨z, hz⟩ : ∃ z, z = f.ops.length := ⟨_, rfl⟩
  rw [← hz] at hu
  subst hu
  have HR := Lib.hid hR; have HZ := Lib.hid hz
  have p1 := hR.cell 1; have p2 := hR.cell 2
  simp only [List.getElem?_toArray, List.getElem?_cons_zero, List.getElem?_cons_succ] at p1 p2
  have hmz : z ≤ 9223372036854775807 := by unfold maxLen at hml; omega
  have hcv := conv_str_Dlg V f.d
  obtain ⟨W1, hW1⟩ : ∃ W1, W1 = V.drew.alloc (.cells (bytesRow f.d (grownCap V f.d.size 0 5)) 5 ((bytesRow f.d (grownCap V f.d.size 0 5)).size, (bytesRow f.d (grownCap V f.d.size 0 5)).size + 1)) := ⟨_, rfl⟩
  rw [← hW1] at hcv
  have ho1 : OwnB15 V.heap.size W1 (.slice (some ⟨V.heap.size, 0, none⟩) f.d.size (grownCap V f.d.size 0 5)) f.d.data.toList := by
    have := ownsE_conv V 5 f.d (by unfold maxLen; omega) V.heap.size (Nat.le_refl _)
    rw [← hW1] at this
    unfold OwnB15; rw [dsize]; exact this
  have hb1 : Below V.heap.size V W1 := by rw [hW1]; exact ((Below.refl _ V).drew).alloc (Nat.le_refl _) _
  have p2' : W1.cell? ⟨w.heap.size, 2, none⟩ = some (.slice a z cap) := (hb1.cell (p := ⟨w.heap.size, 2, none⟩) hR.lt).trans p2
  have HO1 := Lib.hid ho1; have HB1 := Lib.hid hb1; have HCV := Lib.hid hcv
  clear hV hbV hR ho hml hz hW1 ho1 hb1 hcv p2
  go_enter Tryz.func74, Tryz.ntmps74
  go_wp2_with fail
  rw [← HV.out]
  go_wp2_with fail
  rw [HCV.out]
  simp only [Result.andThen]
  rw [Oper.upon_value]
  go_wp2_with fail
  go_loopw [3, 12] (fun b i wr => ∃ (k : Nat) (l : Txt) (v : Value), k ≤ z ∧ i = .int .i64 k ∧ v = b ∧ OwnB15 V.heap.size wr v l ∧ l = seenT f.d.data.toList (f.ops.take k) ∧ Below V.heap.size V wr) (fun _ i _ => z - (intOf i).toNat)
  case atStart => exact ⟨0, f.d.data.toList, _, Nat.zero_le _, rfl, rfl, HO1.out, rfl, HB1.out⟩
  case round =>
    obtain ⟨k, l, v, hk, rfl, rfl, hO, hl, hB⟩ := hrel
    clear p1 p2' HO1 HB1 HCV
    have HB := Lib.hid hB; have HOW := Lib.hid hO
    have HX := Lib.hid hl
    by_cases hlt : k < z
    · have hko : k < f.ops.length := by have := HZ.out; omega
      obtain ⟨_, _, _, hev, _, hc⟩ := HI.out.stays hB
      rw [← HZ.out] at hev
      cases hev
      obtain ⟨b1, o1, rfl, hbl, g1⟩ := hc (by omega)
      obtain ⟨q1, q2⟩ := g1 k hko
      have hop := HO.out _ (List.getElem_mem hko)
      have hst := seen_step (s := f.d.data.toList) hko
      obtain ⟨o, hoo⟩ : ∃ o, o = f.ops[k] := ⟨_, rfl⟩
      rw [← hoo] at q1 q2 hop hst
      rw [opOk_at hop] at q1
      have hln := opOk_len hop
      have hds : o.d.size ≠ 0 := hop.2.1
      have hln2 : o.a + o.d.size ≤ 262144 := by unfold Dop.t at hln; rw [dsize] at hln; exact hln
      obtain ⟨na, hna⟩ : ∃ na, na = o.a := ⟨_, rfl⟩
      rw [← hna] at q1 hst hln2
      have hls : l.length ≤ 262144 := by rw [hl]; exact HM.out k
      have CL := Lib.hid (fun (W : World) (hb : Below wr.heap.size wr W) => laid_any V.heap.size v l na o.d W (hO.step hb) (Nat.le_trans hB.size hb.size) hls hln2 hds)
      obtain ⟨y, hy⟩ : ∃ y, y = layT l na o.d.data.toList := ⟨_, rfl⟩
      rw [← hy] at CL
      have HY : Hid (y = seenT f.d.data.toList (f.ops.take (k + 1))) := Lib.hid (by rw [hy, hst, hl]; rfl)
      have hbk : decide ((k : Int) < (z : Int)) = true := by simpa using (show (k : Int) < z by omega)
      have HBA : Hid (Below wr.heap.size wr (wr.alloc (.cells #[.int .i64 (na : Int), .string o.d] 59))) := Lib.hid ((Below.refl _ _).alloc (Nat.le_refl _) _)
      clear g1 hc hoo hop hst hln hds hna hls hy hl hB hko hO hln2
      go_wp2_with fail
      refine (CL.out _ HBA.out).mono ?_
      rintro e w2 ⟨v2, rfl, ho2, hb2⟩
      have HO2 := Lib.hid ho2; have HB2 := Lib.hid ((HB.out.trans (HBA.out.mono HB.out.size)).trans hb2)
      clear ho2 hb2 q1 q2
      go_wp2
      go_roundw
      case rel => exact ⟨k + 1, y, v2, by omega, by go_num, rfl, HO2.out, HY.out, HB2.out⟩
      case measure => simp [intOf]; omega
    · obtain rfl : k = z := by omega
      have hbk : decide ((k : Int) < (k : Int)) = false := by simp
      have HE : Hid (l = seenF f) := Lib.hid (by rw [hl, List.take_of_length_le (by have := HZ.out; omega)]; rfl)
      have HC := Lib.hid hO.conv
      clear hl hO
      have hc := HC.out
      go_wp2_with fail
      go_ret
      exact ⟨by rw [← HE.out]; rfl, below_step HB0.out hB⟩
end Go.Proofs.YtalknbadakfppaaGreat
set_option linter.unusedVariables false
namespace Go.Proofs.YtalknbadakfppaaGreat
open Go.RowKit Go.Extern.Stop Go.Stop Go.Extern
abbrev errK (k : Int) : Value := .iface 31 (.int .i64 k)
theorem errnoType_Wlj (v : Value) (w : World) : (ReflectliteType.typeOf #[.iface 31 v]).run Tryz.prog w = .ok (.iface 127 (.agg #[.pointer (some ⟨1, 31, none⟩)])) w := by kernel_rfl
theorem errnoComparable_Wlj (w : World) : ((ReflectliteType.method fun t => do Rtype.noPackHeld "Comparable" t; (fun a => Value.bool a.comparable) <$> typeInfo t) #[.agg #[.pointer (some ⟨1, 31, none⟩)]]).run Tryz.prog w = .ok (.bool true) w := by kernel_rfl
theorem methodComparable_Wlj (n : Nat) (v : Value) (w : World) : (Go.method (n + 1) 127 v "Comparable").run Tryz.prog w = .ok (154, v) w := by kernel_rfl
theorem noIsK_Wlj (v : Value) (xT : TypeId) (w : World) : (Instr.typeAssert (.iface 31 v) xT 129 true).run Tryz.prog w = .ok (.tuple #[.nilIface, .bool false]) w := run_typeAssert_lacksB Tryz.underlying129 (by kernel_rfl) (by kernel_rfl) v xT w
theorem noUnwrapK_Wlj (v : Value) (xT : TypeId) (w : World) : (Instr.typeAssert (.iface 31 v) xT 132 true).run Tryz.prog w = .ok (.tuple #[.nilIface, .bool false]) w := run_typeAssert_lacksB Tryz.underlying132 (by kernel_rfl) (by kernel_rfl) v xT w
theorem noUnwrapsK_Wlj (v : Value) (xT : TypeId) (w : World) : (Instr.typeAssert (.iface 31 v) xT 134 true).run Tryz.prog w = .ok (.tuple #[.nilIface, .bool false]) w := run_typeAssert_lacksB Tryz.underlying134 (by kernel_rfl) (by kernel_rfl) v xT w
theorem errnoEq_Wlj (a b : Int) (w : World) : (binOp .eql 80 (errK a) (errK b)).run Tryz.prog w = .ok (.bool (a == b)) w := by kernel_rfl
set_option maxRecDepth 100000 in
set_option maxHeartbeats 2000000 in
theorem is_errno (a b : Int) (w : World) : Calls Tryz.prog 44 #[errK a, errK b] w fun e w' => e = .returned (.bool (a == b)) ∧ Below w.heap.size w w' := by
  have h8 := @run_callFunc_extern Tryz.prog 61 _ ReflectliteType.typeOf Tryz.func61 (by kernel_rfl) (by kernel_rfl) (by kernel_rfl) (by kernel_rfl)
  have h32 := @run_callFunc_extern Tryz.prog 154 _ (ReflectliteType.method fun t => do Rtype.noPackHeld "Comparable" t; pure (.bool (← typeInfo t).comparable)) Tryz.func154 (by kernel_rfl) (by kernel_rfl) (by kernel_rfl) (by kernel_rfl)
  have tT := errnoType_Wlj
  have cT := errnoComparable_Wlj
  have mR := methodComparable_Wlj
  have n3 := noIsK_Wlj
  have n4 := noUnwrapK_Wlj
  have n5 := noUnwrapsK_Wlj
  have eq1 := errnoEq_Wlj a b
  go_enter Tryz.func44, Tryz.ntmps44
  by_cases h : a = b
  · subst h
    have hb : (a == a) = true := beq_self_eq_true a
    rw [hb] at eq1 ⊢
    go_wp2
    refine wp_loop_rounds 1 ?_
    rw [rounds_succ]
    go_wp2
    go_ret
    exact ⟨rfl, Below.refl _ _⟩
  · have hb : (a == b) = false := beq_eq_false_iff_ne.2 h
    rw [hb] at eq1 ⊢
    clear h
    go_wp2
    refine wp_loop_rounds 1 ?_
    rw [rounds_succ]
    go_wp2
    go_ret
    exact ⟨rfl, Below.refl _ _⟩
end Go.Proofs.YtalknbadakfppaaGreat
namespace Go.Proofs
open Go.Shelf
def Tryz.lays137_ren : Go.Shelf.Ren := ⟨fun | 137 => 128 | 217 => 132 | 266 => 133 | n => n, fun | 9 => 9 | 5 => 5 | 3 => 3 | n => n, fun | n => n⟩
theorem Tryz.lays137 : Go.Proofs.Lays.n137 Tryz.prog Tryz.lays137_ren := {
  mixed := by kernel_rfl
  f137 := Tryz.func128.trans (congrArg some (by kernel_rfl))
  f217 := Tryz.func132.trans (congrArg some (by kernel_rfl))
  f266 := Tryz.func133.trans (congrArg some (by kernel_rfl))
  t3 := Tryz.underlying3
  a3 := Tryz.isAgg3
  z3 := Tryz.sizeOf3
  v3 := Tryz.zeroValue3
  t5 := Tryz.underlying5
  a5 := Tryz.isAgg5
  z5 := Tryz.sizeOf5
  v5 := Tryz.zeroValue5
  t9 := Tryz.underlying9
  a9 := Tryz.isAgg9
  z9 := Tryz.sizeOf9
  v9 := Tryz.zeroValue9 }
def Tryz.lays153_ren : Go.Shelf.Ren := ⟨fun | 153 => 115 | 152 => 121 | 226 => 122 | 227 => 123 | 228 => 124 | 137 => 128 | 119 => 129 | 224 => 130 | 225 => 131 | 217 => 132 | 266 => 133 | n => n, fun | 9 => 9 | 3 => 3 | 4 => 4 | 5 => 5 | 21 => 21 | 117 => 171 | 116 => 170 | 0 => 0 | 46 => 144 | 124 => 179 | n => n, fun | n => n⟩
theorem Tryz.lays153 : Go.Proofs.Lays.n153 Tryz.prog Tryz.lays153_ren := {
  mixed := by kernel_rfl
  f119 := Tryz.func129.trans (congrArg some (by kernel_rfl))
  f137 := Tryz.func128.trans (congrArg some (by kernel_rfl))
  f152 := Tryz.func121.trans (congrArg some (by kernel_rfl))
  f153 := Tryz.func115.trans (congrArg some (by kernel_rfl))
  f217 := Tryz.func132.trans (congrArg some (by kernel_rfl))
  f224 := Tryz.func130.trans (congrArg some (by kernel_rfl))
  f225 := Tryz.func131.trans (congrArg some (by kernel_rfl))
  f226 := Tryz.func122.trans (congrArg some (by kernel_rfl))
  f227 := Tryz.func123.trans (congrArg some (by kernel_rfl))
  f228 := Tryz.func124.trans (congrArg some (by kernel_rfl))
  f266 := Tryz.func133.trans (congrArg some (by kernel_rfl))
  t0 := Tryz.underlying0
  a0 := Tryz.isAgg0
  z0 := Tryz.sizeOf0
  v0 := Tryz.zeroValue0
  t3 := Tryz.underlying3
  a3 := Tryz.isAgg3
  z3 := Tryz.sizeOf3
  v3 := Tryz.zeroValue3
  t4 := Tryz.underlying4
  a4 := Tryz.isAgg4
  z4 := Tryz.sizeOf4
  v4 := Tryz.zeroValue4
  t5 := Tryz.underlying5
  a5 := Tryz.isAgg5
  z5 := Tryz.sizeOf5
  v5 := Tryz.zeroValue5
  t9 := Tryz.underlying9
  a9 := Tryz.isAgg9
  z9 := Tryz.sizeOf9
  v9 := Tryz.zeroValue9
  t21 := Tryz.underlying21
  a21 := Tryz.isAgg21
  z21 := Tryz.sizeOf21
  v21 := Tryz.zeroValue21
  t46 := Tryz.underlying144
  a46 := Tryz.isAgg144
  z46 := Tryz.sizeOf144
  v46 := Tryz.zeroValue144
  t116 := Tryz.underlying170
  a116 := Tryz.isAgg170
  z116 := Tryz.sizeOf170
  t117 := Tryz.underlying171
  a117 := Tryz.isAgg171
  z117 := Tryz.sizeOf171
  v117 := Tryz.zeroValue171
  t124 := Tryz.underlying179
  a124 := Tryz.isAgg179
  z124 := Tryz.sizeOf179
  v124 := Tryz.zeroValue179 }
def Tryz.lays152_ren : Go.Shelf.Ren := ⟨fun | 152 => 121 | 137 => 128 | 119 => 129 | 224 => 130 | 225 => 131 | 217 => 132 | 266 => 133 | n => n, fun | 9 => 9 | 21 => 21 | 3 => 3 | 4 => 4 | 5 => 5 | 0 => 0 | 46 => 144 | n => n, fun | n => n⟩
theorem Tryz.lays152 : Go.Proofs.Lays.n152 Tryz.prog Tryz.lays152_ren := {
  mixed := by kernel_rfl
  f119 := Tryz.func129.trans (congrArg some (by kernel_rfl))
  f137 := Tryz.func128.trans (congrArg some (by kernel_rfl))
  f152 := Tryz.func121.trans (congrArg some (by kernel_rfl))
  f217 := Tryz.func132.trans (congrArg some (by kernel_rfl))
  f224 := Tryz.func130.trans (congrArg some (by kernel_rfl))
  f225 := Tryz.func131.trans (congrArg some (by kernel_rfl))
  f266 := Tryz.func133.trans (congrArg some (by kernel_rfl))
  t0 := Tryz.underlying0
  a0 := Tryz.isAgg0
  z0 := Tryz.sizeOf0
  v0 := Tryz.zeroValue0
  t3 := Tryz.underlying3
  a3 := Tryz.isAgg3
  z3 := Tryz.sizeOf3
  v3 := Tryz.zeroValue3
  t4 := Tryz.underlying4
  a4 := Tryz.isAgg4
  z4 := Tryz.sizeOf4
  v4 := Tryz.zeroValue4
  t5 := Tryz.underlying5
  a5 := Tryz.isAgg5
  z5 := Tryz.sizeOf5
  v5 := Tryz.zeroValue5
  t9 := Tryz.underlying9
  a9 := Tryz.isAgg9
  z9 := Tryz.sizeOf9
  v9 := Tryz.zeroValue9
  t21 := Tryz.underlying21
  a21 := Tryz.isAgg21
  z21 := Tryz.sizeOf21
  v21 := Tryz.zeroValue21
  t46 := Tryz.underlying144
  a46 := Tryz.isAgg144
  z46 := Tryz.sizeOf144
  v46 := Tryz.zeroValue144 }
def Tryz.lays_pu25_ren : Go.Shelf.Ren := ⟨fun | 25 => 106 | n => n, fun | 9 => 9 | 3 => 3 | 4 => 4 | 37 => 74 | 0 => 0 | 47 => 94 | 5 => 5 | n => n, fun | n => n⟩
theorem Tryz.lays_pu25 : Go.Proofs.LaysPu.n25 Tryz.prog Tryz.lays_pu25_ren := {
  mixed := by kernel_rfl
  f25 := Tryz.func106.trans (congrArg some (by kernel_rfl))
  t0 := Tryz.underlying0
  a0 := Tryz.isAgg0
  z0 := Tryz.sizeOf0
  v0 := Tryz.zeroValue0
  i0 := by kernel_rfl
  t3 := Tryz.underlying3
  a3 := Tryz.isAgg3
  z3 := Tryz.sizeOf3
  v3 := Tryz.zeroValue3
  i3 := by kernel_rfl
  t4 := Tryz.underlying4
  a4 := Tryz.isAgg4
  z4 := Tryz.sizeOf4
  v4 := Tryz.zeroValue4
  i4 := by kernel_rfl
  t5 := Tryz.underlying5
  a5 := Tryz.isAgg5
  z5 := Tryz.sizeOf5
  v5 := Tryz.zeroValue5
  i5 := by kernel_rfl
  t9 := Tryz.underlying9
  a9 := Tryz.isAgg9
  z9 := Tryz.sizeOf9
  v9 := Tryz.zeroValue9
  i9 := by kernel_rfl
  t37 := Tryz.underlying74
  a37 := Tryz.isAgg74
  z37 := Tryz.sizeOf74
  v37 := Tryz.zeroValue74
  i37 := by kernel_rfl
  t47 := Tryz.underlying94
  a47 := Tryz.isAgg94
  z47 := Tryz.sizeOf94
  v47 := Tryz.zeroValue94
  i47 := by kernel_rfl }
end Go.Proofs

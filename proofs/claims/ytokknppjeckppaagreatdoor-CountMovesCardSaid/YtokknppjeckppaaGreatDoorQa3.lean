/-
  Texts put together: contracts and laws that this seat's proofs share.
-/
import Derived.Test.YtokknppjeckppaaGreatDoorQa2
import Derived.Test.YtokknppjeckppaaGreatDoorQa1
import Derived.Shelf.Sort.Plain
import Derived.Shelf.Slices.CompactS
import Derived.Shelf.Slices.In.SortNone
import Derived.Sort.OwnSorted
import Derived.Lib.OwnBridge
import Derived.Test.YtokknppjeckppaaGreatDoorQa0
import Derived.Shelf.Strings.Builder2
import Derived.Deep.QuietTactic
import Derived.BigQuiet
import Derived.WalkSmall
import Derived.Lib.Hide
import Derived.WalkKit
import Derived.LaidEql
import Derived.Stop.Asserts
import Derived.RowKitTokens
import Derived.Shelf.RegionOpenPlain
import Derived.Shelf.Abstract
import Derived.LoopTactic
import Derived.Outline
import Derived.Laws.BitsAllLaws
import Derived.Below
import Derived.Laws.Rows
import Derived.Laws.CopyOwn
import Derived.Test.YtokknppjeckppaaGreatDoorProg
import Derived.Great.BuildSlice
import Derived.BigRegion
import Derived.RegionTactic
import Derived.StillTailTactics
import Derived.IntWalk
import Derived.Deep.MidRow
import Derived.Laws.CopyRow
import Derived.Lib.BufferWrite
import Derived.Lib.SlBuf
import Derived.Deep.LoopGhost
import Derived.Laws.AppendOwn
import Derived.Laws.IdiomStrings
import Derived.OwnWalk
import Derived.Deep.RegionHeldLaw
import Derived.Deep.AppendLies
set_option linter.unusedVariables false
namespace Go.Proofs.YtokknppjeckppaaGreatDoor
open Go.RowKit Go.Sort
attribute [local go_sem] Oper.semAt_some
noncomputable def sameC (L M : List Ct) : Bool := @decide (L = M) (Classical.propDecidable _)
theorem sameC_yes {L M : List Ct} (h : L = M) : sameC L M = true := @decide_eq_true _ (Classical.propDecidable _) h
theorem sameC_no {L M : List Ct} (h : L ≠ M) : sameC L M = false := @decide_eq_false _ (Classical.propDecidable _) h
def eqC (x y : Ct) : Bool := x.k.toList == y.k.toList && x.n == y.n
theorem eqC_iff {x y : Ct} : eqC x y = true ↔ x = y := by
 unfold eqC
 constructor
 ·intro h
  simp only [Bool.and_eq_true, beq_iff_eq] at h
  obtain ⟨h1, h2⟩ := h
  rw [Lib.toList_data, Lib.toList_data] at h1
  exact ct_ext h1 h2
 ·rintro rfl; simp
theorem eqC_yes {x y : Ct} (h : x = y) : eqC x y = true := eqC_iff.2 h
theorem eqC_no {x y : Ct} (h : x ≠ y) : eqC x y = false := by
 rcases hb : eqC x y with _ | _
 ·rfl
 ·exact absurd (eqC_iff.1 hb) h
theorem neqC (x y : Ct) (w : World) : (binOp .neq 58 (ctV x) (ctV y)).run Tryz.prog w = .ok (.bool (!eqC x y)) w := by
 have hS : Tryz.prog.underlying 58 = some (.struct (Tryz.prog.fieldsOf 58)) := by kernel_rfl
 have hp : Tryz.prog.stoodInHeld 58 = false := by kernel_rfl
 have gas := Tryz.isAgg9; have gzs := Tryz.sizeOf9; have gai := Tryz.isAgg3; have gzi := Tryz.sizeOf3
 rw [run_neq_struct, show (10000 : Nat) = 9999 + 1 from rfl, run_equalIn_agg w 9999 58 _ _ hS hp]
 simp only [Program.fieldsOf, Tryz.underlying58]
 go_simp
 unfold eqC
 by_cases h0 : x.k.toList = y.k.toList <;> by_cases h1 : x.n = y.n <;> simp [h0, h1]
theorem guardC (op : BinOp) (a b : Operand) (x y : Ct) (w : World) : Sem.run Tryz.prog (eqGuard op 58 a b (ctV x) (ctV y)) w = .ok () w :=
 run_eqGuard_agg w op _ a b _ _ (by kernel_rfl)
theorem takeC_same {L M : List Ct} {k : Nat} (hk : k < L.length) (hm : k < M.length) (h : L.take k = M.take k) (h2 : L[k] = M[k]) : L.take (k + 1) = M.take (k + 1) := by
 rw [List.take_succ_eq_append_getElem hk, List.take_succ_eq_append_getElem hm, h, h2]
set_option maxRecDepth 100000 in
set_option maxHeartbeats 2000000 in
theorem rSameC_any (v1 v2 : Value) (L M : List Ct) (w : World) (h1 : IsCts w v1 L) (h2 : IsCts w v2 M) :
  Calls Tryz.prog 12 #[v1, v2] w fun e w' => e = .returned (.bool (sameC L M)) ∧ Below w.heap.size w w' := by
 obtain ⟨hm1, a1, cap1, rfl, _, hc1⟩ := h1
 obtain ⟨hm2, a2, cap2, rfl, _, hc2⟩ := h2
 have hmm1 : L.length ≤ 9223372036854775807 := by unfold maxLen at hm1; omega
 have hmm2 : M.length ≤ 9223372036854775807 := by unfold maxLen at hm2; omega
 have H1 := Lib.hid hc1; have H2 := Lib.hid hc2
 clear hc1 hm1 hc2 hm2
 have hne' : ∀ (x y : Ct) (w : World), Sem.run Tryz.prog (binOp .neq 58 (ctV x) (ctV y)) w = .ok (.bool (!eqC x y)) w := fun x y w => neqC x y w
 have hgd' : ∀ (op : BinOp) (a b : Operand) (x y : Ct) (w : World), Sem.run Tryz.prog (eqGuard op 58 a b (ctV x) (ctV y)) w = .ok () w := fun op a b x y w => guardC op a b x y w
 by_cases hl : L.length = M.length
 ·have hll : ((L.length : Int) == (M.length : Int)) = true := beq_iff_eq.2 (by omega)
  have HL := Lib.hid hl
  clear hl
  go_enter Tryz.func12, Tryz.ntmps12
  go_wp2
  go_loopw [5] (fun i wr => ∃ k m : Nat, k ≤ L.length ∧ i = .int .i64 k ∧ L.take k = M.take k ∧ wr = w.drewN m) (fun i _ => L.length - (intOf i).toNat)
  case atStart => exact ⟨0, 0, Nat.zero_le _, rfl, rfl, rfl⟩
  case round =>
   obtain ⟨k, m, hk, rfl, he, rfl⟩ := hrel
   have HE := Lib.hid he; clear he
   by_cases hlt : k < L.length
   ·have hlt2 : k < M.length := by have := HL.out; omega
    obtain ⟨b1, o1, rfl, _, g1⟩ := H1.out (by omega)
    obtain ⟨b2, o2, rfl, _, g2⟩ := H2.out (by omega)
    obtain ⟨c0, c1⟩ := g1 k hlt
    obtain ⟨d0, d1⟩ := g2 k hlt2
    clear g1 g2
    have hbk : decide ((k : Int) < (L.length : Int)) = true := by simpa using (show (k : Int) < L.length by omega)
    have hbk2 : decide ((k : Int) < (M.length : Int)) = true := by simpa using (show (k : Int) < M.length by omega)
    have HT := Lib.hid (takeC_same hlt hlt2 HE.out)
    have HG := Lib.hid (show L[k] ≠ M[k] → L ≠ M from fun h e => h (by subst e; rfl))
    obtain ⟨x, hx⟩ : ∃ x, x = L[k] := ⟨_, rfl⟩
    obtain ⟨y, hy⟩ : ∃ y, y = M[k] := ⟨_, rfl⟩
    rw [← hx] at c0 c1 HT HG
    rw [← hy] at d0 d1 HT HG
    clear hx hy
    by_cases hxy : x = y
    ·have q := eqC_yes hxy
     have HT2 := Lib.hid (HT.out hxy)
     clear hxy
     go_wp2_with fail
     go_quiet (fail)
     go_wp2
     go_roundw
     case rel => exact ⟨k + 1, m + nq, by omega, by go_num, HT2.out, by simp [World.drewN]⟩
     case measure => simp [intOf]; omega
    ·have q := eqC_no hxy
     have HN := Lib.hid (sameC_no (HG.out hxy))
     clear hxy
     go_wp2_with fail
     go_quiet (fail)
     go_wp2
     go_ret
     exact ⟨by rw [HN.out]; rfl, below_drewN (below_drewN (Below.refl _ _) _) _⟩
   ·have hk' : k = L.length := by omega
    have HS : Hid (sameC L M = true) := sameC_yes (by have := HE.out; rwa [hk', List.take_length, HL.out, List.take_length] at this)
    clear hk'
    go_wp2
    go_ret
    exact ⟨by rw [HS.out]; rfl, below_drewN (Below.refl _ _) _⟩
 ·have hll : ((L.length : Int) == (M.length : Int)) = false := beq_eq_false_iff_ne.2 (by omega)
  have HN := Lib.hid (sameC_no (show L ≠ M from fun e => hl (by rw [e])))
  clear hl
  go_enter Tryz.func12, Tryz.ntmps12
  go_wp2
  go_ret
  exact ⟨by rw [HN.out]; rfl, Below.refl _ _⟩
set_option maxRecDepth 100000 in
set_option maxHeartbeats 2000000 in
theorem cEqual_any (v1 v2 : Value) (L M : List Ct) (w : World) (h1 : IsCts w v1 L) (h2 : IsCts w v2 M) :
  Calls Tryz.prog 37 #[v1, v2] w fun e w' => e = .returned (.bool (sameC L M)) ∧ Below w.heap.size w w' := by
 obtain ⟨hm1, a1, cap1, rfl, _, hc1⟩ := h1
 obtain ⟨hm2, a2, cap2, rfl, _, hc2⟩ := h2
 have hmm1 : L.length ≤ 9223372036854775807 := by unfold maxLen at hm1; omega
 have hmm2 : M.length ≤ 9223372036854775807 := by unfold maxLen at hm2; omega
 have H1 := Lib.hid hc1; have H2 := Lib.hid hc2
 clear hc1 hm1 hc2 hm2
 have hne' : ∀ (x y : Ct) (w : World), Sem.run Tryz.prog (binOp .neq 58 (ctV x) (ctV y)) w = .ok (.bool (!eqC x y)) w := fun x y w => neqC x y w
 have hgd' : ∀ (op : BinOp) (a b : Operand) (x y : Ct) (w : World), Sem.run Tryz.prog (eqGuard op 58 a b (ctV x) (ctV y)) w = .ok () w := fun op a b x y w => guardC op a b x y w
 by_cases hl : L.length = M.length
 ·have hll : ((L.length : Int) == (M.length : Int)) = true := beq_iff_eq.2 (by omega)
  have HL := Lib.hid hl
  clear hl
  go_enter Tryz.func37, Tryz.ntmps37
  go_wp2
  go_loopw [13] (fun i wr => ∃ k m : Nat, k ≤ L.length ∧ i = .int .i64 k ∧ L.take k = M.take k ∧ wr = w.drewN m) (fun i _ => L.length - (intOf i).toNat)
  case atStart => exact ⟨0, 0, Nat.zero_le _, rfl, rfl, rfl⟩
  case round =>
   obtain ⟨k, m, hk, rfl, he, rfl⟩ := hrel
   have HE := Lib.hid he; clear he
   by_cases hlt : k < L.length
   ·have hlt2 : k < M.length := by have := HL.out; omega
    obtain ⟨b1, o1, rfl, _, g1⟩ := H1.out (by omega)
    obtain ⟨b2, o2, rfl, _, g2⟩ := H2.out (by omega)
    obtain ⟨c0, c1⟩ := g1 k hlt
    obtain ⟨d0, d1⟩ := g2 k hlt2
    clear g1 g2
    have hbk : decide ((k : Int) < (L.length : Int)) = true := by simpa using (show (k : Int) < L.length by omega)
    have hbk2 : decide ((k : Int) < (M.length : Int)) = true := by simpa using (show (k : Int) < M.length by omega)
    have HT := Lib.hid (takeC_same hlt hlt2 HE.out)
    have HG := Lib.hid (show L[k] ≠ M[k] → L ≠ M from fun h e => h (by subst e; rfl))
    obtain ⟨x, hx⟩ : ∃ x, x = L[k] := ⟨_, rfl⟩
    obtain ⟨y, hy⟩ : ∃ y, y = M[k] := ⟨_, rfl⟩
    rw [← hx] at c0 c1 HT HG
    rw [← hy] at d0 d1 HT HG
    clear hx hy
    by_cases hxy : x = y
    ·have q := eqC_yes hxy
     have HT2 := Lib.hid (HT.out hxy)
     clear hxy
     go_wp2_with fail
     go_quiet (fail)
     go_wp2
     go_roundw
     case rel => exact ⟨k + 1, m + nq, by omega, by go_num, HT2.out, by simp [World.drewN]⟩
     case measure => simp [intOf]; omega
    ·have q := eqC_no hxy
     have HN := Lib.hid (sameC_no (HG.out hxy))
     clear hxy
     go_wp2_with fail
     go_quiet (fail)
     go_wp2
     go_ret
     exact ⟨by rw [HN.out]; rfl, below_drewN (below_drewN (Below.refl _ _) _) _⟩
   ·have hk' : k = L.length := by omega
    have HS : Hid (sameC L M = true) := sameC_yes (by have := HE.out; rwa [hk', List.take_length, HL.out, List.take_length] at this)
    clear hk'
    go_wp2
    go_ret
    exact ⟨by rw [HS.out]; rfl, below_drewN (Below.refl _ _) _⟩
 ·have hll : ((L.length : Int) == (M.length : Int)) = false := beq_eq_false_iff_ne.2 (by omega)
  have HN := Lib.hid (sameC_no (show L ≠ M from fun e => hl (by rw [e])))
  clear hl
  go_enter Tryz.func37, Tryz.ntmps37
  go_wp2
  go_ret
  exact ⟨by rw [HN.out]; rfl, Below.refl _ _⟩
theorem cells_of_cts {w : World} {b off : Nat} {L : List Ct} (h : ∀ i (h : i < L.length), CtAt w b (off + i * 2) L[i]) : ∀ j u, (ctCells L)[j]? = some u → w.cell? ⟨b, off + j, none⟩ = some u := by
 intro j u hu
 have hj : j < L.length * 2 := by
  have := (List.getElem?_eq_some_iff.1 hu).1
  rwa [ctCells_len] at this
 obtain ⟨i, r, rfl, hr⟩ : ∃ i r, j = i * 2 + r ∧ r < 2 := ⟨j / 2, j % 2, by omega, by omega⟩
 have hi : i < L.length := by omega
 rw [ctCells_get hi hr] at hu
 obtain ⟨c0, c1⟩ := h i hi
 match r, hr, hu with
 | 0, _, hu => simp at hu; subst hu; exact c0
 | 1, _, hu => simp at hu; subst hu; rw [← Nat.add_assoc]; exact c1
set_option maxRecDepth 100000 in
set_option maxHeartbeats 2000000 in
theorem cClone_any (v : Value) (L : List Ct) (w : World) (h : IsCts w v L) (h3 : L.length ≤ 1000000) :
  Calls Tryz.prog 38 #[v] w fun e w' => ∃ v', e = .returned v' ∧ OwnC w.heap.size w' v' L ∧ Below w.heap.size w w' := by
 obtain ⟨hm, a, cap, rfl, ⟨hn, _⟩, hc⟩ := h
 have q22 : ∀ (w : World) (a : Option Addr) (n c n' c' : Nat), (binOp .eql 26 (.slice a n c) (.slice none n' c')).run Tryz.prog w = .ok (.bool a.isNone) w := fun w a n c n' c' => Lib.run_eql_slice_nil w _ _ a n c n' c' Tryz.underlying26
 cases a with
 | none =>
  obtain ⟨rfl, rfl⟩ := hn rfl
  go_enter Tryz.func38, Tryz.ntmps38
  go_wp2
  go_ret
  exact ⟨_, rfl, cts_own_nil _ _, Below.refl _ _⟩
 | some ad =>
  have A : Hid (∀ j u, (ctCells L)[j]? = some u → w.cell? (ad.add j) = some u) := show ∀ j u, _ from fun j u hu => by
   have h0 : 0 < L.length := by
    rcases Nat.eq_zero_or_pos L.length with e | e
    ·have := (List.getElem?_eq_some_iff.1 hu).1
     rw [ctCells_len, e] at this; omega
    ·exact e
   obtain ⟨b, off, e, _, g⟩ := hc h0
   cases e
   rw [add_plain']; exact cells_of_cts g j u hu
  obtain ⟨i0, hi, hz0, hz1, hz2⟩ := info_parts infoCount
  clear hc hn
  have HL := Lib.hid (ctCells_len L)
  go_enter Tryz.func38, Tryz.ntmps38
  go_wp2_with (at_builtin; refine wpList_append_own _ rfl _ _ 26 rfl w.heap.size 58 i0 (ctV zeroCt) 2 24 Tryz.underlying26 hi hz0 hz1 hz2 rfl (by decide) _ _ _ rfl (World.ownsRow_made w #[] 0 (Nat.le_refl _) (Nat.zero_le _) (by simp)) ad L.length cap (ctCells L) rfl ?qc1 ?qc2 ?qc3 ?qc4 ?qc5 ?qc6 ?_)
  case qc1 => exact HL.out
  case qc2 => intro j u hj; exact Lib.cell?_alloc_some _ (A.out j u hj)
  case qc3 => exact fun u hu => ctCells_one hu
  case qc4 => rw [Nat.zero_add]; exact hm
  case qc5 => rw [Nat.zero_add]; omega
  case qc6 => simp
  intro v' w1 hown hgrow _
  have HO : Hid (OwnC w.heap.size w1 v' L) := show World.ownsRow _ _ _ _ _ _ _ by simpa using hown
  clear hown
  go_wp2
  go_ret
  exact ⟨_, rfl, HO.out, ((Below.refl _ w).alloc (Nat.le_refl _) _).grown hgrow (by simp) (by intro k hk; simp [Value.ownBlock] at hk; omega)⟩
theorem pSameC_any (v1 v2 : Value) (L M : List Ct) (w : World) (h1 : IsCts w v1 L) (h2 : IsCts w v2 M) :
  Calls Tryz.prog 15 #[v1, v2] w fun e w' => e = .returned (.bool (sameC L M)) ∧ Below w.heap.size w w' := by
 have C := Lib.hid (cEqual_any v1 v2 L M w h1 h2)
 go_enter Tryz.func15, Tryz.ntmps15
 go_wp2_with fail
 refine C.out.mono ?_
 rintro e w1 ⟨rfl, hb⟩
 go_wp2
 go_ret
 exact ⟨rfl, hb⟩
theorem nC_app {A B : List Ct} {t : Txt} (h : ∀ x ∈ A, x.t ≠ t) : nC (A ++ B) t = nC B t := by
 induction A with
 | nil => rfl
 | cons y A ih =>
  show (if y.t = t then y.n else nC (A ++ B) t) = _
  rw [if_neg (h y (List.mem_cons_self ..)), ih fun x hx => h x (List.mem_cons_of_mem _ hx)]
def NoneC (L : List Ct) (t : Txt) (k : Nat) : Prop := ∀ x ∈ L.take k, x.t ≠ t
theorem noneC_step {L : List Ct} {t : Txt} {k : Nat} (hk : k < L.length) (h : NoneC L t k) (hne : L[k].t ≠ t) : NoneC L t (k + 1) := fun x hx => by
 rw [List.take_succ_eq_append_getElem hk] at hx
 rcases List.mem_append.1 hx with hx | hx
 ·exact h x hx
 ·rw [List.mem_singleton.1 hx]; exact hne
theorem noneC_hit {L : List Ct} {t : Txt} {k : Nat} (hk : k < L.length) (h : NoneC L t k) (he : L[k].t = t) : nC L t = L[k].n := by
 conv => lhs; rw [← List.take_append_drop k L]
 rw [nC_app h, List.drop_eq_getElem_cons hk]
 exact if_pos he
theorem noneC_all {L : List Ct} {t : Txt} {k : Nat} (hk : L.length ≤ k) (h : NoneC L t k) : nC L t = 0 := nC_none fun x hx => h x (by rw [List.take_of_length_le hk]; exact hx)
set_option maxRecDepth 100000 in
set_option maxHeartbeats 2000000 in
theorem rN_any (v : Value) (L : List Ct) (s : ByteArray) (w : World) (h : IsCts w v L) :
  Calls Tryz.prog 14 #[v, .string s] w fun e w' => e = .returned (.int .i64 (nC L s.data.toList)) ∧ Below w.heap.size w w' := by
 have HI := Lib.hid h
 obtain ⟨hm, a, cap, rfl, _, hc⟩ := h
 have hmm : L.length ≤ 9223372036854775807 := by unfold maxLen at hm; omega
 clear hc hm
 go_enter Tryz.func14, Tryz.ntmps14
 go_wp2
 go_loop [5] (fun i => ∃ k : Nat, k ≤ L.length ∧ i = .int .i64 k ∧ NoneC L s.data.toList k) (fun i => L.length - (intOf i).toNat)
 case atStart => exact ⟨0, Nat.zero_le _, rfl, fun x hx => by simp at hx⟩
 case round =>
  obtain ⟨k, hk, rfl, hn⟩ := hrel
  have HN := Lib.hid hn; clear hn
  by_cases hlt : k < L.length
  ·have hI := HI.out
   obtain ⟨_, _, _, e, _, hc⟩ := hI
   cases e
   obtain ⟨b, off, rfl, _, g⟩ := hc (by omega)
   obtain ⟨c0, c1⟩ := g k hlt
   clear g hc
   have hbk : decide ((k : Int) < (L.length : Int)) = true := by simpa using (show (k : Int) < L.length by omega)
   by_cases he : L[k].k = s
   ·have HS := Lib.hid (noneC_hit hlt HN.out (by rw [Ct.t, he]))
    have hb1 := beq_true he
    have HE := Lib.hid he; clear he
    go_wp2
    go_ret
    exact ⟨by rw [HS.out]; rfl, Below.refl _ _⟩
   ·have HS := Lib.hid (noneC_step hlt HN.out (fun e => he (str_eq' e)))
    have hb1 := beq_false he
    clear he
    go_wp2
    go_round
    case rel => exact ⟨k + 1, by omega, by go_num, HS.out⟩
    case measure => simp [intOf]; omega
  ·have HS : Hid (nC L s.data.toList = 0) := Lib.hid (noneC_all (by omega) HN.out)
   go_wp2
   go_ret
   exact ⟨by rw [HS.out]; rfl, Below.refl _ _⟩
theorem nEq_any (x : Ct) (bt : Nat) (s : ByteArray) (w : World) (hc : w.cell? ⟨bt, 0, none⟩ = some (.string s)) :
  Calls Tryz.prog 36 #[ctV x, .pointer (some ⟨bt, 0, none⟩)] w fun e w' => e = .returned (.bool (x.k.toList == s.toList)) ∧ Below w.heap.size w w' := by
 have hbl := block_lt_of_cell hc
 have hb0 := (Below.refl w.heap.size w).alloc (Nat.le_refl _) (.cells #[.string x.k, .int .i64 x.n] 58)
 go_enter Tryz.func36, Tryz.ntmps36
 go_wp2
 go_ret
 exact ⟨rfl, hb0⟩
def RetIdx (L : List Ct) (t : Txt) (w : World) (e : Ending) (w' : World) : Prop :=
 Below w.heap.size w w' ∧ ((e = .returned (.int .i64 (-1)) ∧ nC L t = 0) ∨ ∃ (k : Nat) (h : k < L.length), e = .returned (.int .i64 k) ∧ nC L t = L[k].n)
set_option maxRecDepth 100000 in
set_option maxHeartbeats 4000000 in
theorem cIndex_any (v : Value) (L : List Ct) (bt : Nat) (s : ByteArray) (w : World) (h : IsCts w v L) (hc : w.cell? ⟨bt, 0, none⟩ = some (.string s)) :
  Calls Tryz.prog 35 #[v, .func (.func 36) #[] #[.pointer (some ⟨bt, 0, none⟩)]] w (RetIdx L s.data.toList w) := by
 have HI := Lib.hid h
 have HC := Lib.hid hc
 have hbl := block_lt_of_cell hc
 obtain ⟨hm, a, cap, rfl, _, hcc⟩ := h
 have hmm : L.length ≤ 9223372036854775807 := by unfold maxLen at hm; omega
 clear hcc hm hc
 go_enter Tryz.func35, Tryz.ntmps35
 go_wp2
 go_loopw [8] (fun i wr => ∃ k : Nat, k ≤ L.length ∧ i = .int .i64 k ∧ NoneC L s.data.toList k ∧ Below w.heap.size w wr) (fun i _ => L.length - (intOf i).toNat)
 case atStart => exact ⟨0, Nat.zero_le _, rfl, fun x hx => by simp at hx, Below.refl _ _⟩
 case round =>
  obtain ⟨k, hk, rfl, hn, hB⟩ := hrel
  have HN := Lib.hid hn; have HB := Lib.hid hB
  clear hn
  by_cases hlt : k < L.length
  ·obtain ⟨_, _, _, e, _, hcc⟩ := HI.out.stays hB
   cases e
   obtain ⟨b, off, rfl, _, g⟩ := hcc (by omega)
   obtain ⟨c0, c1⟩ := g k hlt
   have HST := Lib.hid (noneC_step hlt HN.out); have HIT := Lib.hid (noneC_hit hlt HN.out)
   obtain ⟨x, hx⟩ : ∃ x, x = L[k] := ⟨_, rfl⟩
   have HX := Lib.hid hx
   rw [← hx] at c0 c1 HST HIT
   have C := Lib.hid (nEq_any x bt s wr ((hB.cell (p := ⟨bt, 0, none⟩) hbl).trans HC.out))
   have HLT := Lib.hid hlt
   clear g hcc hB hx
   have hbk : decide ((k : Int) < (L.length : Int)) = true := by simpa using (show (k : Int) < L.length by omega)
   by_cases he : x.k = s
   ·have HS := Lib.hid (HIT.out (by rw [Ct.t, he]))
    rw [beq_true he] at C
    clear he
    go_wp2_with fail
    refine C.out.mono ?_
    rintro e w1 ⟨rfl, hb⟩
    have HB1 := Lib.hid (below_step HB.out hb)
    clear hb
    go_wp2
    go_ret
    exact ⟨HB1.out, .inr ⟨k, HLT.out, rfl, by rw [HS.out, HX.out]⟩⟩
   ·have HS := Lib.hid (HST.out (fun e => he (str_eq' e)))
    rw [beq_false he] at C
    clear he
    go_wp2_with fail
    refine C.out.mono ?_
    rintro e w1 ⟨rfl, hb⟩
    have HB1 := Lib.hid (below_step HB.out hb)
    clear hb
    go_wp2
    go_roundw
    case rel => exact ⟨k + 1, by omega, by go_num, HS.out, HB1.out⟩
    case measure => simp [intOf]; omega
  ·have HS : Hid (nC L s.data.toList = 0) := Lib.hid (noneC_all (by omega) HN.out)
   have hbk : decide ((k : Int) < (L.length : Int)) = false := by simp; omega
   clear hB
   go_wp2
   go_ret
   exact ⟨HB.out, .inl ⟨rfl, HS.out⟩⟩
set_option maxRecDepth 100000 in
set_option maxHeartbeats 4000000 in
theorem pN_any (v : Value) (L : List Ct) (s : ByteArray) (w : World) (h : IsCts w v L) :
  Calls Tryz.prog 13 #[v, .string s] w fun e w' => e = .returned (.int .i64 (nC L s.data.toList)) ∧ Below w.heap.size w w' := by
 have hb0 := (Below.refl w.heap.size w).alloc (Nat.le_refl _) (.cells #[.string s] 9)
 have C := Lib.hid (cIndex_any v L w.heap.size s (w.alloc (.cells #[.string s] 9)) (h.stays hb0) (by simp))
 have HI := Lib.hid (h.stays hb0); have HB0 := Lib.hid hb0
 obtain ⟨hm, a, cap, rfl, _, hcc⟩ := h
 have hmm : L.length ≤ 9223372036854775807 := by unfold maxLen at hm; omega
 clear hcc hm hb0
 go_enter Tryz.func13, Tryz.ntmps13
 go_wp2_with fail
 refine C.out.mono ?_
 rintro e w1 ⟨hb1, hcase⟩
 have HB1 := Lib.hid (below_step HB0.out hb1)
 rcases hcase with ⟨rfl, h0⟩ | ⟨k, hk, rfl, h1⟩
 ·have H0 := Lib.hid h0
  clear h0 hb1
  go_wp2
  go_ret
  exact ⟨by rw [H0.out]; rfl, HB1.out⟩
 ·have H1 := Lib.hid h1
  obtain ⟨_, _, _, e, _, hcc⟩ := HI.out.stays hb1
  cases e
  obtain ⟨b, off, rfl, _, g⟩ := hcc (by omega)
  obtain ⟨c0, c1⟩ := g k hk
  obtain ⟨x, hx⟩ : ∃ x, x = L[k] := ⟨_, rfl⟩
  rw [← hx] at c0 c1 H1
  clear h1 hb1 g hcc hx
  go_wp2
  go_ret
  exact ⟨by rw [H1.out]; rfl, HB1.out⟩
end Go.Proofs.YtokknppjeckppaaGreatDoor
set_option linter.unusedVariables false
namespace Go.Proofs.YtokknppjeckppaaGreatDoor
open Go.RowKit
attribute [local go_sem] Oper.semAt_some
def ChTo (C : List Ct) (key : ByteArray) (d : Int) (k : Nat) (done : Bool) (out : List Ct) : Prop :=
 out.length ≤ k + 1 ∧ (done = true → ∀ y ∈ C.drop k, key.data.toList < y.t) ∧ out ++ (if done = true then C.drop k else changeC (C.drop k) key d) = changeC C key d
theorem chTo_zero (C : List Ct) (key : ByteArray) (d : Int) : ChTo C key d 0 false [] := ⟨by simp, fun h => absurd h (by decide), by simp⟩
theorem fit_above {C : List Ct} (hC : FitC C) {k : Nat} (hk : k < C.length) : ∀ y ∈ C.drop (k + 1), C[k].t < y.t := by
 have h := hC.1
 rw [← List.take_append_drop k C, List.drop_eq_getElem_cons hk] at h
 exact (List.pairwise_cons.1 (List.pairwise_append.1 h).2.1).1
section
variable {C : List Ct} {key : ByteArray} {d : Int} {k : Nat} {out : List Ct}
theorem chTo_done (h : ChTo C key d k true out) (hk : k < C.length) : ChTo C key d (k + 1) true (out ++ [C[k]]) ∧ key.data.toList < C[k].t := by
 obtain ⟨h1, h2, h3⟩ := h
 have hd := List.drop_eq_getElem_cons hk
 refine ⟨⟨by rw [List.length_append, List.length_singleton]; omega, fun _ y hy => h2 rfl y (by rw [hd]; exact List.mem_cons_of_mem _ hy), ?_⟩, h2 rfl _ (by rw [hd]; exact List.mem_cons_self ..)⟩
 rw [← h3, if_pos rfl, if_pos rfl, hd]; simp
theorem chTo_here (hC : FitC C) (h : ChTo C key d k false out) (hk : k < C.length) (hl : key.data.toList < C[k].t) (hlen : out.length ≤ k) : ChTo C key d (k + 1) true ((out ++ [⟨key, d⟩]) ++ [C[k]]) := by
 obtain ⟨h1, h2, h3⟩ := h
 have hd := List.drop_eq_getElem_cons hk
 refine ⟨by simp; omega, fun _ y hy => t_trans hl (fit_above hC hk y hy), ?_⟩
 rw [← h3, if_pos rfl, if_neg (by decide), hd]
 show _ = out ++ (if key.data.toList < C[k].t then _ else _)
 rw [if_pos hl]; simp
theorem chTo_pos (hC : FitC C) (h : ChTo C key d k false out) (hk : k < C.length) (he : C[k].t = key.data.toList) (hp : 0 < C[k].n + d) : ChTo C key d (k + 1) true (out ++ [⟨C[k].k, C[k].n + d⟩]) := by
 obtain ⟨h1, h2, h3⟩ := h
 have hd := List.drop_eq_getElem_cons hk
 refine ⟨by simp; omega, fun _ y hy => by rw [← he]; exact fit_above hC hk y hy, ?_⟩
 rw [← h3, if_pos rfl, if_neg (by decide), hd]
 show _ = out ++ (if key.data.toList < C[k].t then _ else if C[k].t = key.data.toList then (if 0 < C[k].n + d then _ else _) else _)
 rw [if_neg (by rw [he]; exact t_irrefl _), if_pos he, if_pos hp]; simp
theorem chTo_nul (hC : FitC C) (h : ChTo C key d k false out) (hk : k < C.length) (he : C[k].t = key.data.toList) (hp : ¬ 0 < C[k].n + d) : ChTo C key d (k + 1) true out := by
 obtain ⟨h1, h2, h3⟩ := h
 have hd := List.drop_eq_getElem_cons hk
 refine ⟨by omega, fun _ y hy => by rw [← he]; exact fit_above hC hk y hy, ?_⟩
 rw [← h3, if_pos rfl, if_neg (by decide), hd]
 show _ = out ++ (if key.data.toList < C[k].t then _ else if C[k].t = key.data.toList then (if 0 < C[k].n + d then _ else _) else _)
 rw [if_neg (by rw [he]; exact t_irrefl _), if_pos he, if_neg hp]
theorem chTo_past (h : ChTo C key d k false out) (hk : k < C.length) (hl : ¬ key.data.toList < C[k].t) (he : C[k].t ≠ key.data.toList) : ChTo C key d (k + 1) false (out ++ [C[k]]) := by
 obtain ⟨h1, h2, h3⟩ := h
 have hd := List.drop_eq_getElem_cons hk
 refine ⟨by simp; omega, fun h => absurd h (by decide), ?_⟩
 rw [← h3, if_neg (by decide), if_neg (by decide), hd]
 show _ = out ++ (if key.data.toList < C[k].t then _ else if C[k].t = key.data.toList then _ else C[k] :: changeC (C.drop (k + 1)) key d)
 rw [if_neg hl, if_neg he]; simp
theorem chTo_end {done : Bool} (h : ChTo C key d k done out) (hk : C.length ≤ k) : out ++ (if done = true then [] else [⟨key, d⟩]) = changeC C key d := by
 have := h.2.2
 rw [List.drop_of_length_le hk] at this
 cases done <;> exact this
end
theorem wpList_append_ct {ops : Array Oper} {rest : List Oper} {o : Oper} {a : Act} {B z : Nat} {w0 : World} {Q : Exit → Act → World → Prop} (hgd : o.guard = none) (s x : Operand)
  (ho : o.op = .call { callee := .builtin .append, args := #[s, x], argTypes := #[26, 26] })
  {v : Value} {M : List Ct} {k : ByteArray} {n : Int} (hown : OwnC B w0 v M) (hBs : B ≤ w0.heap.size) (hz : z = w0.heap.size) (hs : a.eval s = v)
  (hx : a.eval x = .slice (some ⟨z, 0, none⟩) 1 1) (hlen : M.length ≤ 1000000)
  (h : ∀ v' w', OwnC B w' v' (M ++ [⟨k, n⟩]) → w0.grownBy w' v.ownBlock → wpList Tryz.prog ops Q rest (a.put o.dst v') w') :
  wpList Tryz.prog ops Q (o :: rest) a (w0.alloc (.cells #[.string k, .int .i64 n] 58)) := by
 subst hz
 exact wpList_append_cts (y := ⟨k, n⟩) hgd s x ho hown hBs hs hx hlen h
theorem box_kept {B : Nat} {w w0 w2 : World} {v : Value} {M : List Ct} {xs : Array Value} {T : TypeId} (hown : OwnC B w v M) (hb : Row w0 w.heap.size xs T) (hg : w0.grownBy w2 v.ownBlock) : Row w2 w.heap.size xs T :=
 (hg.block _ hb.lt (fun e => by have := (hown.lt _ e.symm).2; omega)).trans hb
set_option maxRecDepth 100000 in
set_option maxHeartbeats 16000000 in
theorem rchange_any (v : Value) (C : List Ct) (key : ByteArray) (d : Int) (w : World) (h : IsCts w v C) (hC : FitC C) (hL : C.length ≤ 900000) (hn : ∀ x ∈ C, x.n ≤ 1000000000000000) (hd1 : -1 ≤ d) (hd2 : d ≤ 1) :
  Calls Tryz.prog 39 #[v, .string key, .int .i64 d] w fun e w' => ∃ v', e = .returned v' ∧ OwnC w.heap.size w' v' (changeC C key d) ∧ Below w.heap.size w w' := by
 have HI := Lib.hid h; have HC := Lib.hid hC; have HN := Lib.hid hn
 obtain ⟨_, a, cap, hv, _, _⟩ := h
 obtain ⟨z, hz⟩ : ∃ z, z = C.length := ⟨_, rfl⟩
 rw [← hz] at hv hL
 subst hv
 have HZ := Lib.hid hz
 clear hC hn hz
 go_enter Tryz.func39, Tryz.ntmps39
 go_wp2_with fail
 go_loopw [7, 8, 9] (fun o b i wr => ∃ (k : Nat) (db : Bool) (out : List Ct) (u : Value), k ≤ z ∧ i = .int .i64 k ∧ b = .bool db ∧ u = o ∧ ChTo C key d k db out ∧ (db = false → out.length ≤ k) ∧ OwnC w.heap.size wr u out ∧ Below w.heap.size w wr) (fun _ _ i _ => z - (intOf i).toNat)
 case atStart => exact ⟨0, false, [], _, Nat.zero_le _, rfl, rfl, rfl, chTo_zero _ _ _, fun _ => Nat.le_refl _, cts_own_nil _ _, Below.refl _ _⟩
 case round =>
  obtain ⟨k, db, out, u, hk, rfl, rfl, rfl, hA, hlo, hO, hB⟩ := hrel
  have hol : out.length ≤ 1000000 := by have := hA.1; omega
  have hol2 : out.length + 1 ≤ 1000000 := by have := hA.1; omega
  have HA := Lib.hid hA; have HO := Lib.hid hO; have HB := Lib.hid hB; have HLO := Lib.hid hlo
  obtain ⟨_, ua, uc, hu, _, _⟩ := hO.is
  obtain ⟨m, hm⟩ : ∃ m, m = out.length := ⟨_, rfl⟩
  rw [← hm] at hu hol hol2
  have HM := Lib.hid hm
  subst hu
  clear hA hO hlo hm
  by_cases hlt : k < z
  ·have hkl : k < C.length := by have := HZ.out; omega
   obtain ⟨_, _, _, e, _, hc⟩ := HI.out.stays hB
   rw [← HZ.out] at e
   cases e
   obtain ⟨b, off, rfl, hbl, g⟩ := hc (by omega)
   obtain ⟨c0, c1⟩ := g k hkl
   have hxn1 := HC.out.2 _ (List.getElem_mem hkl)
   have hxn2 := HN.out _ (List.getElem_mem hkl)
   have HDN := Lib.hid (fun h => chTo_done (C := C) (key := key) (d := d) (k := k) (out := out) h hkl)
   have HHE := Lib.hid (fun h1 h2 h3 => chTo_here (C := C) (key := key) (d := d) (k := k) (out := out) HC.out h1 hkl h2 h3)
   have HPO := Lib.hid (fun h1 h2 h3 => chTo_pos (C := C) (key := key) (d := d) (k := k) (out := out) HC.out h1 hkl h2 h3)
   have HNU := Lib.hid (fun h1 h2 h3 => chTo_nul (C := C) (key := key) (d := d) (k := k) (out := out) HC.out h1 hkl h2 h3)
   have HPA := Lib.hid (fun h1 h2 h3 => chTo_past (C := C) (key := key) (d := d) (k := k) (out := out) h1 hkl h2 h3)
   obtain ⟨x, hx⟩ : ∃ x, x = C[k] := ⟨_, rfl⟩
   rw [← hx] at c0 c1 hxn1 hxn2 HDN HHE HPO HNU HPA
   have hbk : decide ((k : Int) < (z : Int)) = true := by simpa using (show (k : Int) < z by omega)
   have hbx : Below wr.heap.size wr (wr.alloc (.cells #[.string x.k, .int .i64 x.n] 58)) := (Below.refl _ _).alloc (Nat.le_refl _) _
   have HBX := Lib.hid hbx
   have HOX := Lib.hid (HO.out.stays hbx)
   have HS1 : Hid (w.heap.size ≤ (wr.alloc (.cells #[.string x.k, .int .i64 x.n] 58)).heap.size) := Lib.hid (Nat.le_trans hB.size hbx.size)
   have HZ1 : Hid (wr.heap.size + 1 = (wr.alloc (.cells #[.string x.k, .int .i64 x.n] 58)).heap.size) := Lib.hid (by simp)
   clear g hc hx hkl hB hbx
   cases db with
   | true =>
    obtain ⟨HS0, hl⟩ := HDN.out HA.out
    have HS := Lib.hid HS0
    have q1 : (x.k.toList == key.toList) = false := beq_false (fun e => t_irrefl key.data.toList (by rw [Ct.t, e] at hl; exact hl))
    clear HS0 hl
    go_wp2_with (at_builtin; refine wpList_append_ct rfl _ _ rfl HOX.out HS1.out HZ1.out rfl rfl (by rw [← HM.out]; exact hol) ?_)
    intro v' w2 ho2 hg2
    have HO2 := Lib.hid ho2; have HB2 := Lib.hid ((below_step HB.out HBX.out).grown hg2 HS1.out (fun j hj => (HOX.out.lt j hj).1))
    clear ho2 hg2 c0 c1
    go_wp2
    go_roundw
    case rel => exact ⟨k + 1, true, _, v', by omega, by go_num, rfl, rfl, HS.out, (fun h => by cases h), HO2.out, HB2.out⟩
    case measure => simp [intOf]; omega
   | false =>
    by_cases hl : key.data.toList < x.t
    ·have HS := Lib.hid (HHE.out HA.out hl (HLO.out rfl))
     have q0 : Op.bytesLess key.toList x.k.toList = true := by rw [less_eq]; exact decide_eq_true hl
     have q1 : (x.k.toList == key.toList) = false := beq_false (fun e => t_irrefl key.data.toList (by rw [Ct.t, e] at hl; exact hl))
     have q2 : Op.bytesLess x.k.toList key.toList = false := by rw [less_eq]; exact decide_eq_false (t_asymm hl)
     clear hl
     have HOL := Lib.hid hol2
     go_wp2_with (at_builtin; refine wpList_append_ct rfl _ _ rfl HOX.out HS1.out HZ1.out rfl rfl (by rw [← HM.out]; exact hol) ?_)
     intro v' w2 ho2 hg2
     have HO2 := Lib.hid ho2; have HB2 := Lib.hid ((below_step HB.out HBX.out).grown hg2 HS1.out (fun j hj => (HOX.out.lt j hj).1))
     have hbx2 := box_kept HO.out (Row.made wr #[.string x.k, .int .i64 x.n] 58) hg2
     have e0 : w2.cell? ⟨wr.heap.size, 0, none⟩ = some (.string x.k) := hbx2.cell 0
     have e1 : w2.cell? ⟨wr.heap.size, 1, none⟩ = some (.int .i64 x.n) := hbx2.cell 1
     have hbxl := hbx2.lt
     have HS2 : Hid (w.heap.size ≤ w2.heap.size) := Lib.hid HB2.out.size
     obtain ⟨_, va, vc, hvv, _, _⟩ := ho2.is
     have hm1 : (out ++ [(⟨key, d⟩ : Ct)]).length = m + 1 := by rw [List.length_append, ← HM.out]; rfl
     have HM1 := Lib.hid hm1
     rw [hm1] at hvv
     clear ho2 hg2 c0 c1 hbx2 hm1
     subst hvv
     go_wp2_with (at_builtin; refine wpList_append_ct rfl _ _ rfl HO2.out HS2.out rfl rfl rfl (by rw [HM1.out]; exact HOL.out) ?_)
     intro v3 w3 ho3 hg3
     have HO3 := Lib.hid ho3; have HB3 := Lib.hid (HB2.out.grown hg3 HS2.out (fun j hj => (HO2.out.lt j hj).1))
     clear ho3 hg3 e0 e1
     go_wp2
     go_roundw
     case rel => exact ⟨k + 1, true, _, v3, by omega, by go_num, rfl, rfl, HS.out, (fun h => by cases h), by rw [List.append_assoc]; exact HO3.out, HB3.out⟩
     case measure => simp [intOf]; omega
    ·have q0 : Op.bytesLess key.toList x.k.toList = false := by rw [less_eq]; exact decide_eq_false hl
     by_cases he : x.k = key
     ·have q1 : (x.k.toList == key.toList) = true := beq_true he
      have hxt : x.t = key.data.toList := by rw [Ct.t, he]
      by_cases hp : 0 < x.n + d
      ·have HS := Lib.hid (HPO.out HA.out hxt hp)
       have HOY := Lib.hid (HO.out.stays ((Below.refl wr.heap.size wr).alloc (Nat.le_refl _) (.cells #[.string x.k, .int .i64 (x.n + d)] 58)))
       have HSY : Hid (w.heap.size ≤ (wr.alloc (.cells #[.string x.k, .int .i64 (x.n + d)] 58)).heap.size) := Lib.hid (by have := HS1.out; simpa using this)
       have HZY : Hid (wr.heap.size + 1 = (wr.alloc (.cells #[.string x.k, .int .i64 (x.n + d)] 58)).heap.size) := Lib.hid (by simp)
       have HBY := Lib.hid (below_step HB.out ((Below.refl wr.heap.size wr).alloc (Nat.le_refl _) (.cells #[.string x.k, .int .i64 (x.n + d)] 58)))
       clear hl he hxt
       go_wp2_with (at_builtin; refine wpList_append_ct rfl _ _ rfl HOY.out HSY.out HZY.out rfl rfl (by rw [← HM.out]; exact hol) ?_)
       intro v3 w3 ho3 hg3
       have HO3 := Lib.hid ho3; have HB3 := Lib.hid (HBY.out.grown hg3 HSY.out (fun j hj => (HOY.out.lt j hj).1))
       clear ho3 hg3 c0 c1
       go_wp2
       go_roundw
       case rel => exact ⟨k + 1, true, _, v3, by omega, by go_num, rfl, rfl, HS.out, (fun h => by cases h), HO3.out, HB3.out⟩
       case measure => simp [intOf]; omega
      ·have HS := Lib.hid (HNU.out HA.out hxt hp)
       have HOY := Lib.hid (HO.out.stays ((Below.refl wr.heap.size wr).alloc (Nat.le_refl _) (.cells #[.string x.k, .int .i64 (x.n + d)] 58)))
       have HBY := Lib.hid (below_step HB.out ((Below.refl wr.heap.size wr).alloc (Nat.le_refl _) (.cells #[.string x.k, .int .i64 (x.n + d)] 58)))
       clear hl he hxt
       go_wp2
       go_roundw
       case rel => exact ⟨k + 1, true, _, _, by omega, by go_num, rfl, rfl, HS.out, (fun h => by cases h), HOY.out, HBY.out⟩
       case measure => simp [intOf]; omega
     ·have q1 : (x.k.toList == key.toList) = false := beq_false he
      have q2 : Op.bytesLess x.k.toList key.toList = true := by rw [less_eq]; exact decide_eq_true (Classical.byContradiction fun h => he (str_eq' (t_tri _ _ h hl)))
      have HS := Lib.hid (HPA.out HA.out hl (fun e => he (str_eq' e)))
      clear hl he
      go_wp2_with (at_builtin; refine wpList_append_ct rfl _ _ rfl HOX.out HS1.out HZ1.out rfl rfl (by rw [← HM.out]; exact hol) ?_)
      intro v' w2 ho2 hg2
      have HO2 := Lib.hid ho2; have HB2 := Lib.hid ((below_step HB.out HBX.out).grown hg2 HS1.out (fun j hj => (HOX.out.lt j hj).1))
      clear ho2 hg2 c0 c1
      go_wp2
      go_roundw
      case rel => exact ⟨k + 1, false, _, v', by omega, by go_num, rfl, rfl, HS.out, (fun _ => by rw [List.length_append, List.length_singleton]; have := HLO.out (by trivial); omega), HO2.out, HB2.out⟩
      case measure => simp [intOf]; omega
  ·have HE := Lib.hid (chTo_end HA.out (by have := HZ.out; omega))
   have hbk : decide ((k : Int) < (z : Int)) = false := by simp; omega
   clear hB
   cases db with
   | true =>
    have HE2 : Hid (out = changeC C key d) := Lib.hid (by have := HE.out; simpa using this)
    go_wp2
    go_ret
    exact ⟨_, rfl, by rw [← HE2.out]; exact HO.out, HB.out⟩
   | false =>
    have HE2 : Hid (out ++ [⟨key, d⟩] = changeC C key d) := Lib.hid (by have := HE.out; simpa using this)
    have HS0 := Lib.hid HB.out.size
    go_wp2_with (at_builtin; refine wpList_append_ct rfl _ _ rfl HO.out HS0.out rfl rfl rfl (by rw [← HM.out]; exact hol) ?_)
    intro v' w2 ho2 hg2
    have HO2 := Lib.hid ho2; have HB2 := Lib.hid (HB.out.grown hg2 HS0.out (fun j hj => (HO.out.lt j hj).1))
    clear ho2 hg2
    go_wp2
    go_ret
    exact ⟨_, rfl, by rw [← HE2.out]; exact HO2.out, HB2.out⟩
end Go.Proofs.YtokknppjeckppaaGreatDoor
set_option linter.unusedVariables false
namespace Go.Proofs.YtokknppjeckppaaGreatDoor
noncomputable def kidsL (O : List Ob) (t : Txt) : List Txt := ofL (kidsO O t)
theorem kidsL_mem {O : List Ob} {t u : Txt} : u ∈ kidsL O t ↔ u ∈ kidsO O t := by
 unfold kidsL
 rw [(ofL_spec _).2]
 exact ⟨fun h => h.1, fun h => ⟨h, kidsO_len h⟩⟩
theorem kidsL_count {O : List Ob} {t u : Txt} : (kidsL O t).count u = if u ∈ kidsO O t then 1 else 0 := by
 have hn : (kidsL O t).Nodup := List.Pairwise.imp (fun {a b} (h : a < b) (e : a = b) => t_irrefl b (by rw [e] at h; exact h)) (ofL_spec (kidsO O t)).1
 by_cases h : u ∈ kidsO O t
 ·rw [if_pos h]
  have h1 := List.count_pos_iff.2 (kidsL_mem.2 h)
  have h2 := List.nodup_iff_count.1 hn u
  omega
 ·rw [if_neg h]
  exact List.count_eq_zero.2 fun h2 => h (kidsL_mem.1 h2)
noncomputable def queC (O : List Ob) (r : Txt) (F : List Txt) : List Txt := r :: F.flatMap (kidsL O)
theorem flat_count {O : List Ob} {t : Txt} : ∀ (F : List Txt), (F.flatMap (kidsL O)).count t = nmO O F t
 | [] => rfl
 | j :: F => by
  rw [List.flatMap_cons, List.count_append, flat_count F, kidsL_count]
  unfold nmO
  rw [List.countP_cons]
  by_cases h : t ∈ kidsO O j <;> simp [h] <;> omega
theorem queC_count {O : List Ob} {r : Txt} {F : List Txt} {t : Txt} : (queC O r F).count t = oneK t r + nmO O F t := by
 unfold queC
 rw [List.count_cons, flat_count]
 unfold oneK
 by_cases h : t = r
 ·subst h; simp; omega
 ·rw [if_neg h, if_neg (by simpa using fun e => h e.symm)]; omega
theorem queC_snoc {O : List Ob} {r : Txt} {F : List Txt} {j : Txt} : queC O r (F ++ [j]) = queC O r F ++ kidsL O j := by
 unfold queC; rw [List.flatMap_append]; simp
theorem queC_mem {O : List Ob} {r : Txt} {F : List Txt} {t : Txt} : t ∈ queC O r F ↔ t = r ∨ ∃ j ∈ F, t ∈ kidsO O j := by
 unfold queC
 rw [List.mem_cons, List.mem_flatMap]
 simp only [kidsL_mem]
theorem take_count_le (Q : List Txt) (i : Nat) (t : Txt) : (Q.take i).count t ≤ Q.count t := (List.take_sublist i Q).count_le t
theorem take_count_succ {Q : List Txt} {i : Nat} (h : i < Q.length) (t : Txt) : (Q.take (i + 1)).count t = (Q.take i).count t + oneK t Q[i] := by
 rw [List.take_succ_eq_append_getElem h, List.count_append, List.count_singleton]
 unfold oneK
 by_cases e : t = Q[i]
 ·rw [if_pos e, if_pos (by rw [e]; exact beq_self_eq_true _)]
 ·rw [if_neg e, if_neg (by simpa using fun h => e h.symm)]
theorem take_app {Q R : List Txt} {i : Nat} (h : i ≤ Q.length) : (Q ++ R).take i = Q.take i := by rw [List.take_append_of_le_length h]
structure PlusI (O : List Ob) (c0 : List Ct) (r : Txt) (i : Nat) (c : List Ct) (Q : List Txt) : Prop where
 fit : FitC c
 le : i ≤ Q.length
 n : ∀ t, nC c t = nC c0 t + ((Q.take i).count t : Nat)
 que : ∃ F, F.Nodup ∧ Q = queC O r F ∧ (∀ t ∈ F, FreshO O (fun t => (nC c0 t).toNat) r t) ∧ ∀ t, t ∈ F ↔ t ∈ Q.take i ∧ nC c0 t = 0
theorem plus_zero {O : List Ob} {c0 : List Ct} {r : Txt} (h : FitC c0) : PlusI O c0 r 0 c0 [r] :=
 ⟨h, Nat.zero_le _, fun t => by simp, [], List.nodup_nil, rfl, fun t h => by simp at h, fun t => by simp⟩
theorem plus_step {O : List Ob} {c0 c : List Ct} {r : Txt} {i : Nat} {Q : List Txt} (h0 : FitC c0) (h : PlusI O c0 r i c Q) (hi : i < Q.length) {key : ByteArray} (hk : key.data.toList = Q[i]) :
  PlusI O c0 r (i + 1) (changeC c key 1) (if nC c key.data.toList = 0 then Q ++ kidsL O Q[i] else Q) := by
 obtain ⟨hf, hle, hn, F, hF, hQ, hfr, hm⟩ := h
 have hpos := (nC_pos hf (t := key.data.toList)).1
 have hfit : FitC (changeC c key 1) := changeC_fit hf (fun _ => Int.le_refl _)
 have hcn : ∀ t, nC (changeC c key 1) t = nC c0 t + ((Q.take (i + 1)).count t : Nat) := fun t => by
  rw [changeC_n hf (by omega), take_count_succ hi, hk]
  unfold oneK
  by_cases e : t = Q[i]
  ·rw [if_pos e, if_pos e, e, hn]; omega
  ·rw [if_neg e, if_neg e, hn]; omega
 rw [hk]
 have hnow : nC c Q[i] = 0 ↔ nC c0 Q[i] = 0 ∧ Q[i] ∉ Q.take i := by
  rw [hn, ← List.count_eq_zero]
  have := (nC_pos h0 (t := Q[i])).1
  omega
 by_cases hz : nC c Q[i] = 0
 ·rw [if_pos hz]
  obtain ⟨z1, z2⟩ := hnow.1 hz
  refine ⟨hfit, by rw [List.length_append]; omega, fun t => by rw [take_app (by omega)]; exact hcn t, F ++ [Q[i]], ?_, ?_, ?_, ?_⟩
  ·rw [List.nodup_append]
   exact ⟨hF, by simp, fun a ha b hb e => z2 (by rw [List.mem_singleton.1 hb] at e; rw [← e]; exact ((hm a).1 ha).1)⟩
  ·rw [queC_snoc, ← hQ]
  ·intro t ht
   rcases List.mem_append.1 ht with ht | ht
   ·exact hfr t ht
   ·rw [List.mem_singleton.1 ht]
    have hq : Q[i] ∈ queC O r F := by rw [← hQ]; exact List.getElem_mem hi
    rcases queC_mem.1 hq with e | ⟨j, hj, e⟩
    ·rw [e]; rw [e] at z1; exact .start (by rw [z1]; rfl)
    ·exact .kid (hfr j hj) e (by rw [z1]; rfl)
  ·intro t
   rw [take_app (by omega), List.take_succ_eq_append_getElem hi, List.mem_append, List.mem_append, List.mem_singleton, hm]
   constructor
   ·rintro (⟨a, b⟩ | rfl)
    ·exact ⟨.inl a, b⟩
    ·exact ⟨.inr rfl, z1⟩
   ·rintro ⟨a | a, b⟩
    ·exact .inl ⟨a, b⟩
    ·exact .inr a
 ·rw [if_neg hz]
  refine ⟨hfit, by omega, hcn, F, hF, hQ, hfr, fun t => ?_⟩
  rw [hm, List.take_succ_eq_append_getElem hi, List.mem_append, List.mem_singleton]
  constructor
  ·rintro ⟨a, b⟩; exact ⟨.inl a, b⟩
  ·rintro ⟨a | a, b⟩
   ·exact ⟨a, b⟩
   ·subst a
    refine ⟨Classical.byContradiction fun hc => hz (hnow.2 ⟨b, hc⟩), b⟩
theorem plus_done {O : List Ob} {c0 c : List Ct} {r : Txt} {Q : List Txt} (h0 : FitC c0) (h : PlusI O c0 r Q.length c Q) :
  FitC c ∧ ∃ F, F.Nodup ∧ (∀ t, t ∈ F ↔ FreshO O (fun t => (nC c0 t).toNat) r t) ∧ ∀ t, nC c t = (plusF O (fun t => (nC c0 t).toNat) r F t : Nat) := by
 obtain ⟨hf, _, hn, F, hF, hQ, hfr, hm⟩ := h
 rw [List.take_length] at hm
 simp only [List.take_length] at hn
 refine ⟨hf, F, hF, fun t => ⟨hfr t, fun ht => ?_⟩, fun t => ?_⟩
 ·have hp : ∀ t, t ∈ Q → (nC c0 t).toNat = 0 → t ∈ F := fun t h1 h2 => (hm t).2 ⟨h1, by have := (nC_pos h0 (t := t)).1; omega⟩
  induction ht with
  | start h => exact hp _ (by rw [hQ]; exact queC_mem.2 (.inl rfl)) h
  | kid _ h1 h2 ih => exact hp _ (by rw [hQ]; exact queC_mem.2 (.inr ⟨_, ih, h1⟩)) h2
 ·rw [hn, hQ, queC_count]
  have := (nC_pos h0 (t := t)).1
  unfold plusF
  dsimp only
  omega
structure MinusI (O : List Ob) (c0 : List Ct) (r : Txt) (i : Nat) (c : List Ct) (Q : List Txt) : Prop where
 fit : FitC c
 le : i ≤ Q.length
 n : ∀ t, nC c t = ((nC c0 t).toNat - (Q.take i).count t : Nat)
 que : ∃ D, D.Nodup ∧ Q = queC O r D ∧ (∀ q (h : q < D.length), 1 ≤ (nC c0 D[q]).toNat ∧ (nC c0 D[q]).toNat ≤ oneK D[q] r + nmO O (D.take q) D[q]) ∧ ∀ t, t ∈ D ↔ 1 ≤ (nC c0 t).toNat ∧ (nC c0 t).toNat ≤ (Q.take i).count t
theorem minus_zero {O : List Ob} {c0 : List Ct} {r : Txt} (h : FitC c0) : MinusI O c0 r 0 c0 [r] :=
 ⟨h, Nat.zero_le _, fun t => by have := (nC_pos h (t := t)).1; simp; omega, [], List.nodup_nil, rfl, fun q h => (by cases h), fun t => by simp; omega⟩
theorem minus_pass {O : List Ob} {c0 c : List Ct} {r : Txt} {i : Nat} {Q : List Txt} (h : MinusI O c0 r i c Q) (hi : i < Q.length) (hz : nC c Q[i] = 0) : MinusI O c0 r (i + 1) c Q := by
 obtain ⟨hf, hle, hn, D, hD, hQ, he, hm⟩ := h
 have hz' := hn Q[i]
 refine ⟨hf, hi, fun t => ?_, D, hD, hQ, he, fun t => ?_⟩
 ·rw [hn, take_count_succ hi]
  unfold oneK
  by_cases e : t = Q[i]
  ·rw [if_pos e, e]; omega
  ·rw [if_neg e]; omega
 ·rw [hm, take_count_succ hi]
  unfold oneK
  by_cases e : t = Q[i]
  ·rw [if_pos e, e]; omega
  ·rw [if_neg e]; omega
theorem minus_step {O : List Ob} {c0 c : List Ct} {r : Txt} {i : Nat} {Q : List Txt} (h : MinusI O c0 r i c Q) (hi : i < Q.length) {key : ByteArray} (hk : key.data.toList = Q[i]) (hz : nC c Q[i] ≠ 0) :
  MinusI O c0 r (i + 1) (changeC c key (-1)) (if nC (changeC c key (-1)) key.data.toList = 0 then Q ++ kidsL O Q[i] else Q) := by
 obtain ⟨hf, hle, hn, D, hD, hQ, he, hm⟩ := h
 have hpos := (nC_pos hf (t := Q[i])).1
 have hz' := hn Q[i]
 have hfit : FitC (changeC c key (-1)) := changeC_fit hf (fun h => absurd (by rw [← hk]; exact h) hz)
 have hch : ∀ t, nC (changeC c key (-1)) t = if t = Q[i] then nC c Q[i] + (-1) else nC c t := fun t => by
  rw [changeC_n hf (by rw [hk]; omega), hk]
 have hcn : ∀ t, nC (changeC c key (-1)) t = ((nC c0 t).toNat - (Q.take (i + 1)).count t : Nat) := fun t => by
  rw [hch, take_count_succ hi]
  unfold oneK
  by_cases e : t = Q[i]
  ·rw [if_pos e, if_pos e, e]; omega
  ·rw [if_neg e, if_neg e, hn]; omega
 rw [hk, hch, if_pos rfl]
 by_cases hd : nC c Q[i] + (-1) = 0
 ·rw [if_pos hd]
  have hnot : Q[i] ∉ D := fun h => by have := ((hm _).1 h).2; omega
  refine ⟨hfit, by rw [List.length_append]; omega, fun t => by rw [take_app (by omega)]; exact hcn t, D ++ [Q[i]], ?_, ?_, ?_, fun t => ?_⟩
  ·rw [List.nodup_append]
   exact ⟨hD, by simp, fun a ha b hb e => hnot (by rw [List.mem_singleton.1 hb] at e; rw [← e]; exact ha)⟩
  ·rw [queC_snoc, ← hQ]
  ·intro q hq
   by_cases hql : q < D.length
   ·rw [List.getElem_append_left hql, List.take_append_of_le_length (by omega)]
    exact he q hql
   ·have hq2 : q = D.length := by rw [List.length_append, List.length_singleton] at hq; omega
    subst hq2
    rw [List.getElem_concat_length rfl, List.take_append_of_le_length (Nat.le_refl _), List.take_length, ← queC_count, ← hQ]
    have h1 := take_count_le Q (i + 1) Q[i]
    rw [take_count_succ hi] at h1
    have h2 : oneK Q[i] Q[i] = 1 := if_pos rfl
    omega
  ·rw [take_app (by omega), take_count_succ hi, List.mem_append, List.mem_singleton, hm]
   unfold oneK
   by_cases e : t = Q[i]
   ·rw [if_pos e, e]
    simp only [or_true, true_iff]
    omega
   ·rw [if_neg e]
    simp [e]
 ·rw [if_neg hd]
  refine ⟨hfit, hi, hcn, D, hD, hQ, he, fun t => ?_⟩
  rw [hm, take_count_succ hi]
  unfold oneK
  by_cases e : t = Q[i]
  ·rw [if_pos e, e]; omega
  ·rw [if_neg e]; omega
theorem minus_done {O : List Ob} {c0 c : List Ct} {r : Txt} {Q : List Txt} (h : MinusI O c0 r Q.length c Q) :
  FitC c ∧ ∃ D, DropsO O (fun t => (nC c0 t).toNat) r D ∧ ∀ t, nC c t = (minusF O (fun t => (nC c0 t).toNat) r D t : Nat) := by
 obtain ⟨hf, _, hn, D, hD, hQ, he, hm⟩ := h
 rw [List.take_length] at hm
 simp only [List.take_length] at hn
 refine ⟨hf, D, ⟨hD, he, fun t h1 h2 => (hm t).2 ⟨h1, by rw [hQ, queC_count]; exact h2⟩⟩, fun t => ?_⟩
 rw [hn, hQ, queC_count]
 unfold minusF
 dsimp only
 omega
def putF (f : Txt → Nat) (k : Txt) (n : Nat) : Txt → Nat := fun t => if t = k then n else f t
theorem putF_same (f : Txt → Nat) (k : Txt) (n : Nat) : putF f k n k = n := if_pos rfl
theorem putF_other {f : Txt → Nat} {k t : Txt} (n : Nat) (h : t ≠ k) : putF f k n t = f t := if_neg h
theorem queC_take {O : List Ob} {r : Txt} {F : List Txt} {i : Nat} (h : i < F.length) : queC O r (F.take (i + 1)) = queC O r (F.take i) ++ kidsL O F[i] := by
 rw [List.take_succ_eq_append_getElem h, queC_snoc]
theorem queC_pre {O : List Ob} {r : Txt} {F G : List Txt} (h : F <+: G) : queC O r F <+: queC O r G := by
 obtain ⟨R, rfl⟩ := h
 unfold queC
 rw [List.flatMap_append]
 exact ⟨R.flatMap (kidsL O), by simp⟩
theorem pre_mem {H Q : List Txt} {k : Txt} (h : H ++ [k] <+: Q) : k ∈ Q := h.subset (by simp)
theorem pre_count {H Q : List Txt} {k : Txt} (h : H ++ [k] <+: Q) : H.count k + 1 ≤ Q.count k := by
 have := h.sublist.count_le k
 rw [List.count_append, List.count_singleton] at this
 simpa using this
structure PlusP (O : List Ob) (f0 : Txt → Nat) (r : Txt) (F H : List Txt) (f : Txt → Nat) : Prop where
 n : ∀ t, f t = f0 t + H.count t
 nodup : F.Nodup
 fresh : ∀ t ∈ F, FreshO O f0 r t
 mem : ∀ t, t ∈ F ↔ t ∈ H ∧ f0 t = 0
theorem plusP_zero (O : List Ob) (f0 : Txt → Nat) (r : Txt) : PlusP O f0 r [] [] f0 := ⟨fun t => by simp, List.nodup_nil, fun t h => (by cases h), fun t => by simp⟩
theorem plusP_step {O : List Ob} {f0 f : Txt → Nat} {r : Txt} {F H : List Txt} (h : PlusP O f0 r F H f) {k : Txt} (hk : H ++ [k] <+: queC O r F) :
  PlusP O f0 r (if f k = 0 then F ++ [k] else F) (H ++ [k]) (putF f k (f k + 1)) := by
 obtain ⟨hn, hF, hfr, hm⟩ := h
 have hn' : ∀ t, putF f k (f k + 1) t = f0 t + (H ++ [k]).count t := fun t => by
  rw [List.count_append, List.count_singleton]
  by_cases e : t = k
  ·subst e; rw [putF_same, hn]; simp; omega
  ·rw [putF_other _ e, hn, if_neg (by simpa using fun h => e h.symm)]; rfl
 have hz : f k = 0 ↔ f0 k = 0 ∧ k ∉ H := by rw [hn, ← List.count_eq_zero]; omega
 by_cases h0 : f k = 0
 ·rw [if_pos h0]
  obtain ⟨z1, z2⟩ := hz.1 h0
  refine ⟨hn', ?_, fun t ht => ?_, fun t => ?_⟩
  ·rw [List.nodup_append]
   exact ⟨hF, by simp, fun a ha b hb e => z2 (by rw [List.mem_singleton.1 hb] at e; rw [← e]; exact ((hm a).1 ha).1)⟩
  ·rcases List.mem_append.1 ht with ht | ht
   ·exact hfr t ht
   ·rw [List.mem_singleton.1 ht]
    rcases queC_mem.1 (pre_mem hk) with e | ⟨j, hj, e⟩
    ·rw [e]; rw [e] at z1; exact .start z1
    ·exact .kid (hfr j hj) e z1
  ·rw [List.mem_append, List.mem_append, List.mem_singleton, hm]
   constructor
   ·rintro (⟨a, b⟩ | rfl)
    ·exact ⟨.inl a, b⟩
    ·exact ⟨.inr rfl, z1⟩
   ·rintro ⟨a | a, b⟩
    ·exact .inl ⟨a, b⟩
    ·exact .inr a
 ·rw [if_neg h0]
  refine ⟨hn', hF, hfr, fun t => ?_⟩
  rw [hm, List.mem_append, List.mem_singleton]
  constructor
  ·rintro ⟨a, b⟩; exact ⟨.inl a, b⟩
  ·rintro ⟨a | a, b⟩
   ·exact ⟨a, b⟩
   ·subst a
    exact ⟨Classical.byContradiction fun hc => h0 (hz.2 ⟨b, hc⟩), b⟩
theorem plusP_done {O : List Ob} {f0 f : Txt → Nat} {r : Txt} {F : List Txt} (h : PlusP O f0 r F (queC O r F) f) :
  F.Nodup ∧ (∀ t, t ∈ F ↔ FreshO O f0 r t) ∧ ∀ t, f t = plusF O f0 r F t := by
 obtain ⟨hn, hF, hfr, hm⟩ := h
 refine ⟨hF, fun t => ⟨hfr t, fun ht => ?_⟩, fun t => ?_⟩
 ·induction ht with
  | start h => exact (hm _).2 ⟨queC_mem.2 (.inl rfl), h⟩
  | kid _ h1 h2 ih => exact (hm _).2 ⟨queC_mem.2 (.inr ⟨_, ih, h1⟩), h2⟩
 ·rw [hn, queC_count]
  unfold plusF
  omega
structure MinusP (O : List Ob) (f0 : Txt → Nat) (r : Txt) (D H : List Txt) (f : Txt → Nat) : Prop where
 n : ∀ t, f t = f0 t - H.count t
 nodup : D.Nodup
 each : ∀ q (h : q < D.length), 1 ≤ f0 D[q] ∧ f0 D[q] ≤ oneK D[q] r + nmO O (D.take q) D[q]
 mem : ∀ t, t ∈ D ↔ 1 ≤ f0 t ∧ f0 t ≤ H.count t
theorem minusP_zero (O : List Ob) (f0 : Txt → Nat) (r : Txt) : MinusP O f0 r [] [] f0 := ⟨fun t => by simp, List.nodup_nil, fun q h => (by cases h), fun t => by simp; omega⟩
theorem count_snoc (H : List Txt) (k t : Txt) : (H ++ [k]).count t = H.count t + oneK t k := by
 rw [List.count_append, List.count_singleton]
 unfold oneK
 by_cases e : t = k
 ·subst e; simp
 ·rw [if_neg e, if_neg (by simpa using fun h => e h.symm)]
theorem minusP_pass {O : List Ob} {f0 f : Txt → Nat} {r : Txt} {D H : List Txt} (h : MinusP O f0 r D H f) {k : Txt} (hz : f k = 0) : MinusP O f0 r D (H ++ [k]) f := by
 obtain ⟨hn, hD, he, hm⟩ := h
 have hk := hn k
 refine ⟨fun t => ?_, hD, he, fun t => ?_⟩
 ·rw [hn, count_snoc]
  unfold oneK
  by_cases e : t = k
  ·rw [if_pos e, e]; omega
  ·rw [if_neg e]; omega
 ·rw [hm, count_snoc]
  unfold oneK
  by_cases e : t = k
  ·rw [if_pos e, e]; omega
  ·rw [if_neg e]; omega
theorem minusP_step {O : List Ob} {f0 f : Txt → Nat} {r : Txt} {D H : List Txt} (h : MinusP O f0 r D H f) {k : Txt} (hk : H ++ [k] <+: queC O r D) (hz : f k ≠ 0) :
  MinusP O f0 r (if f k = 1 then D ++ [k] else D) (H ++ [k]) (putF f k (f k - 1)) := by
 obtain ⟨hn, hD, he, hm⟩ := h
 have hnk := hn k
 have hcn : ∀ t, putF f k (f k - 1) t = f0 t - (H ++ [k]).count t := fun t => by
  rw [count_snoc]
  unfold oneK
  by_cases e : t = k
  ·rw [if_pos e, e, putF_same]; omega
  ·rw [if_neg e, putF_other _ e, hn]; omega
 by_cases hd : f k = 1
 ·rw [if_pos hd]
  have hnot : k ∉ D := fun h => by have := ((hm _).1 h).2; omega
  refine ⟨hcn, ?_, ?_, fun t => ?_⟩
  ·rw [List.nodup_append]
   exact ⟨hD, by simp, fun a ha b hb e => hnot (by rw [List.mem_singleton.1 hb] at e; rw [← e]; exact ha)⟩
  ·intro q hq
   by_cases hql : q < D.length
   ·rw [List.getElem_append_left hql, List.take_append_of_le_length (by omega)]
    exact he q hql
   ·have hq2 : q = D.length := by rw [List.length_append, List.length_singleton] at hq; omega
    subst hq2
    rw [List.getElem_concat_length rfl, List.take_append_of_le_length (Nat.le_refl _), List.take_length, ← queC_count]
    have h1 := pre_count hk
    omega
  ·rw [count_snoc, List.mem_append, List.mem_singleton, hm]
   unfold oneK
   by_cases e : t = k
   ·rw [if_pos e, e]
    simp only [or_true, true_iff]
    omega
   ·rw [if_neg e]
    simp [e]
 ·rw [if_neg hd]
  refine ⟨hcn, hD, he, fun t => ?_⟩
  rw [hm, count_snoc]
  unfold oneK
  by_cases e : t = k
  ·rw [if_pos e, e]; omega
  ·rw [if_neg e]; omega
theorem minusP_done {O : List Ob} {f0 f : Txt → Nat} {r : Txt} {D : List Txt} (h : MinusP O f0 r D (queC O r D) f) : DropsO O f0 r D ∧ ∀ t, f t = minusF O f0 r D t := by
 obtain ⟨hn, hD, he, hm⟩ := h
 refine ⟨⟨hD, he, fun t h1 h2 => (hm t).2 ⟨h1, by rw [queC_count]; exact h2⟩⟩, fun t => ?_⟩
 rw [hn, queC_count]
 unfold minusF
 omega
theorem plusP_le {O : List Ob} {f0 f : Txt → Nat} {r : Txt} {F H : List Txt} (h : PlusP O f0 r F H f) (t : Txt) : f t ≤ f0 t + H.length := by
 rw [h.n]; have := List.count_le_length (a := t) (l := H); omega
theorem minusP_le {O : List Ob} {f0 f : Txt → Nat} {r : Txt} {D H : List Txt} (h : MinusP O f0 r D H f) (t : Txt) : f t ≤ f0 t := by
 rw [h.n]; omega
theorem nodup_len {P B : List Txt} (hn : P.Nodup) (hs : ∀ t ∈ P, t ∈ B) : P.length ≤ B.length := by
 have := count_sub (fun _ => true) hn hs
 simpa using this
theorem queC_len {O : List Ob} {r : Txt} {F U : List Txt} {m : Nat} (hn : F.Nodup) (hs : ∀ t ∈ F, t ∈ U) (hm : ∀ t, (kidsL O t).length ≤ m) : (queC O r F).length ≤ 1 + U.length * m := by
 have h1 : ∀ G : List Txt, (G.flatMap (kidsL O)).length ≤ G.length * m := fun G => by
  induction G with
  | nil => simp
  | cons x G ih =>
   rw [List.flatMap_cons, List.length_append, List.length_cons, Nat.succ_mul]
   have := hm x; omega
 have h2 := Nat.mul_le_mul_right m (nodup_len hn hs)
 have := h1 F
 unfold queC
 rw [List.length_cons]; omega
noncomputable def mapC (f : Txt → Nat) (S : List Txt) : List Ct := listC f (S.filter fun t => decide (f t ≠ 0))
theorem mapC_fit {f : Txt → Nat} {S : List Txt} (h : Rises S) : FitC (mapC f S) :=
 listC_fit (h.sublist List.filter_sublist) fun t ht => by
  have := (List.mem_filter.1 ht).2
  simp at this; omega
theorem mapC_n {f : Txt → Nat} {S : List Txt} (h : ∀ t, t ∉ S → f t = 0) (t : Txt) : nC (mapC f S) t = f t := by
 unfold mapC
 rw [listC_n]
 by_cases ht : t ∈ S
 ·by_cases h0 : f t = 0
  ·rw [if_neg (fun hm => by have := (List.mem_filter.1 hm).2; simp at this; exact this h0), h0]; rfl
  ·rw [if_pos (List.mem_filter.2 ⟨ht, by simpa using h0⟩)]
 ·rw [if_neg (fun hm => ht (List.mem_filter.1 hm).1), h t ht]; rfl
theorem mapC_snoc {f : Txt → Nat} {S : List Txt} {j : Nat} (h : j < S.length) : mapC f (S.take (j + 1)) = if f S[j] = 0 then mapC f (S.take j) else mapC f (S.take j) ++ [⟨⟨S[j].toArray⟩, f S[j]⟩] := by
 unfold mapC listC
 rw [List.take_succ_eq_append_getElem h, List.filter_append, List.map_append]
 by_cases h0 : f S[j] = 0
 ·rw [if_pos h0]; simp [h0]
 ·rw [if_neg h0]; simp [h0]
def nF (c : List Ct) : Txt → Nat := fun t => (nC c t).toNat
theorem nF_mem {c : List Ct} (h : FitC c) (t : Txt) : nF c t ≠ 0 ↔ t ∈ c.map Ct.t := by
 have h1 := nC_pos h (t := t)
 unfold nF
 rw [List.mem_map]
 constructor
 ·intro h2; exact h1.2.1 (by omega)
 ·intro h2; have := h1.2.2 h2; omega
theorem fitC_rises {c : List Ct} (h : FitC c) : Rises (c.map Ct.t) := List.pairwise_map.2 h.1
end Go.Proofs.YtokknppjeckppaaGreatDoor
set_option linter.unusedVariables false
namespace Go.Proofs.YtokknppjeckppaaGreatDoor
open Go.RowKit Go.Sort
attribute [local go_sem] Oper.semAt_some
theorem strCells_enc (M : List Txt) : strCells (strsOf M) = M.map encStr := by simp [strCells, strsOf, Function.comp_def]
theorem OwnTxt.enc {W wr : World} {v : Value} {M : List Txt} (h : OwnTxt W wr v M) : wr.ownsRow W.heap.size 9 1 v M.length (M.map encStr) := by
 unfold OwnTxt at h; rw [strsOf_len, strCells_enc] at h; exact h
theorem ownTxt_of {W wr : World} {v : Value} {M : List Txt} {n : Nat} (h : wr.ownsRow W.heap.size 9 1 v n (M.map encStr)) (hn : n = M.length) : OwnTxt W wr v M := by
 subst hn; unfold OwnTxt; rw [strsOf_len, strCells_enc]; exact h
theorem Sort_own (W wr : World) (v : Value) (M : List Txt) (h : OwnTxt W wr v M) (hb : Below W.heap.size W wr) (hlen : M.length ≤ 1000000) :
  Calls Tryz.prog 81 #[v] wr fun e w' => e = .returned (.tuple #[]) ∧ OwnTxt W w' v (M.mergeSort fun x y => decide (x ≤ y)) ∧ Below W.heap.size W w' := by
 have h0 := h.enc
 rcases h0.2 with ⟨rfl, hn⟩ | ⟨g, cap, cur, rfl, hbase, hbk, h1, h2, h3, h4⟩
 ·obtain rfl := List.length_eq_zero_iff.1 hn
  have C := Any.slices_Sort_string_none Tryz.lays190 none 0 wr
  change Calls Tryz.prog 81 _ _ _ at C
  refine C.mono ?_
  rintro e w' ⟨rfl, rfl⟩
  exact ⟨rfl, by simpa using h, hb⟩
 ·have hg : g < wr.heap.size := (Array.getElem?_eq_some_iff.1 hbk).1
  have C := Any.slices_Sort_string Tryz.lays190 g 0 cap M wr (holds_of_block hbk (by simpa using h4)) hg (by omega)
  change Calls Tryz.prog 81 _ _ _ at C
  refine C.mono ?_
  rintro e w' ⟨rfl, n, os, rfl⟩
  refine ⟨rfl, ownTxt_of (ownsRow_sorted (n := n) (os := os) (ts := M.mergeSort fun x y => decide (x ≤ y)) (by simp) hbase hbk h1 h2 h3) (by simp), hb.grown (grownBy_sorted _) hb.size (fun j hj => by cases hj; exact hbase)⟩
theorem Compact_own (W wr : World) (v : Value) (M : List Txt) (h : OwnTxt W wr v M) (hb : Below W.heap.size W wr) (hlen : M.length ≤ 1000000) :
  Calls Tryz.prog 93 #[v] wr fun e w' => ∃ v', e = .returned v' ∧ OwnTxt W w' v' (Lib.compact M) ∧ Below W.heap.size W w' := by
 have h0 := h.enc
 have hle := Lib.compact_length_le M
 rcases h0.2 with ⟨rfl, hn⟩ | ⟨g, cap, cur, rfl, hbase, hbk, h1, h2, h3, h4⟩
 ·obtain rfl := List.length_eq_zero_iff.1 hn
  have C := Any.slices_Compact_string_empty Tryz.lays194 none 0 wr
  change Calls Tryz.prog 93 _ _ _ at C
  refine C.mono ?_
  rintro e w' ⟨rfl, rfl⟩
  exact ⟨_, rfl, by rw [show Lib.compact ([] : List Txt) = [] from rfl]; exact h, hb⟩
 ·have C := Any.slices_Compact_string Tryz.lays194 g 0 cap M wr (holds_of_block hbk (by simpa using h4)) (by omega) h1
  change Calls Tryz.prog 93 _ _ _ at C
  refine C.mono ?_
  rintro e w' ⟨rfl, q, rfl⟩
  have hc := Lib.ownsRow_putRow (q := q) (k := (Lib.compact M).length) (ys := Lib.compact M ++ List.replicate (M.length - (Lib.compact M).length) []) h0 (by simp; omega) (by omega)
  rw [List.take_left] at hc
  exact ⟨_, rfl, ownTxt_of hc rfl, Lib.below_putRow hb hbase⟩
def KeepTo (l : List Txt) (k : Nat) : List Txt := (l.take k).filter isK
theorem keepTo_step {l : List Txt} {k : Nat} (hk : k < l.length) : KeepTo l (k + 1) = if l[k].length = 32 then KeepTo l k ++ [l[k]] else KeepTo l k := by
 unfold KeepTo
 rw [List.take_succ_eq_append_getElem hk, List.filter_append]
 by_cases h : l[k].length = 32 <;> simp [h, isK]
theorem keepTo_len (l : List Txt) (k : Nat) : (KeepTo l k).length ≤ k := by
 have h2 := List.length_filter_le isK (l.take k)
 have h3 := List.length_take_le k l
 unfold KeepTo; omega
def RetOwn (w : World) (M : List Txt) (e : Ending) (w' : World) : Prop := ∃ v, e = .returned v ∧ OwnTxt w w' v M ∧ Below w.heap.size w w'
set_option maxRecDepth 100000 in
set_option maxHeartbeats 2000000 in
theorem Of_own (v : Value) (L : List ByteArray) (w : World) (hv : IsStrs w v L) (hL : L.length ≤ 800000) :
  Calls Tryz.prog 71 #[v] w (RetOwn w (ofL (txts L))) := by
 obtain ⟨hm, a, cap, rfl, _, hc⟩ := hv
 have HC := Lib.hid hc
 clear hc hm
 go_enter Tryz.func71, Tryz.ntmps71
 go_wp2
 go_loopw [3, 8] (fun o i wr => ∃ k : Nat, k ≤ L.length ∧ i = .int .i64 k ∧ OwnTxt w wr o (KeepTo (txts L) k) ∧ Below w.heap.size w wr) (fun _ i _ => L.length - (intOf i).toNat)
 case atStart => exact ⟨0, Nat.zero_le _, rfl, ownTxt_nil _, Below.refl _ _⟩
 case round =>
  obtain ⟨k, hk, rfl, hO, hB⟩ := hrel
  have HO := Lib.hid hO
  clear hO
  by_cases hlt : k < L.length
  ·obtain ⟨b1, o1, rfl, hbl, g1⟩ := HC.out (by omega)
   have q1 := g1 k hlt
   rw [← hB.cell (p := ⟨b1, o1 + k, none⟩) hbl] at q1
   clear g1
   have hst := keepTo_step (l := txts L) (k := k) (by rw [txts_len]; exact hlt)
   rw [txts_get hlt] at hst
   obtain ⟨y, hy⟩ : ∃ y, y = L[k] := ⟨_, rfl⟩
   rw [← hy] at q1 hst
   clear hy
   rw [← Lib.size_eq] at hst
   have hol : (KeepTo (txts L) k).length ≤ 1000000 := by have := keepTo_len (txts L) k; omega
   have hK := Lib.hid (isKey_any y)
   have hbk : decide ((k : Int) < (L.length : Int)) = true := by simpa using (show (k : Int) < L.length by omega)
   by_cases h32 : y.size = 32
   ·rw [if_pos h32] at hst
    have h32b : (((y.size : Nat) : Int) == 32) = true := by rw [h32]; rfl
    rw [h32b] at hK
    have HST := Lib.hid hst
    clear h32 hst
    go_wp2_with (first | ((with_reducible refine (hK.out _).mono ?_); rintro e w1 ⟨rfl, rfl⟩) | (at_builtin; refine wpList_append_txt rfl _ _ rfl HO.out hB rfl rfl hol ?_))
    intro v' w2 hown' hb2
    go_wp2
    go_roundw
    case rel => exact ⟨k + 1, by omega, by go_num, by rw [HST.out]; exact hown', hb2⟩
    case measure => simp [intOf]; omega
   ·rw [if_neg h32] at hst
    have HST := Lib.hid hst; clear hst
    have h32b : (((y.size : Nat) : Int) == 32) = false := by simp; omega
    rw [h32b] at hK
    clear h32
    go_wp2_with ((with_reducible refine (hK.out _).mono ?_); rintro e w1 ⟨rfl, rfl⟩)
    go_roundw
    case rel => exact ⟨k + 1, by omega, by go_num, by rw [HST.out]; exact HO.out, hB⟩
    case measure => simp [intOf]; omega
  ·have hE : KeepTo (txts L) k = (txts L).filter isK := by
    unfold KeepTo
    rw [List.take_of_length_le (by rw [txts_len]; omega)]
   have hll : ((txts L).filter isK).length ≤ 1000000 := by have := List.length_filter_le isK (txts L); rw [txts_len] at this; omega
   have hO := HO.out
   rw [hE] at hO
   have C1 := Lib.hid (Sort_own w wr u3 _ hO hB hll)
   have C2 := Lib.hid (fun w1 (h : OwnTxt w w1 u3 (((txts L).filter isK).mergeSort fun x y => decide (x ≤ y))) (hb : Below w.heap.size w w1) => Compact_own w w1 u3 _ h hb (by simpa using hll))
   have hge : decide ((k : Int) < (L.length : Int)) = false := by simp; omega
   clear hE hll hO HO
   go_wp2_with fail
   refine C1.out.mono ?_
   rintro e w1 ⟨rfl, hO1, hb1⟩
   have C3 := Lib.hid (C2.out w1 hO1 hb1)
   clear hO1
   go_wp2_with fail
   refine C3.out.mono ?_
   rintro e w2 ⟨v2, rfl, hO2, hb2⟩
   have HO2 := Lib.hid hO2
   clear hO2
   go_wp2
   go_ret
   exact ⟨v2, rfl, HO2.out, hb2⟩
end Go.Proofs.YtokknppjeckppaaGreatDoor
set_option linter.unusedVariables false
namespace Go.Proofs.YtokknppjeckppaaGreatDoor
open Go.RowKit
attribute [local go_sem] Oper.semAt_some
theorem OwnTxt.low_Ned {W W' wr : World} {v : Value} {M : List Txt} (h : OwnTxt W wr v M) (hb : W'.heap.size ≤ W.heap.size) : OwnTxt W' wr v M :=
 ⟨h.1, h.2.imp id fun ⟨g, cap, cur, h3, h4, h5⟩ => ⟨g, cap, cur, h3, Nat.le_trans hb h4, h5⟩⟩
set_option maxRecDepth 100000 in
set_option maxHeartbeats 2000000 in
theorem pKids_own (n : Nd) (pv ev : Value) (w : World) (hp : IsParts w pv n.ps) (he : IsEntries w ev n.es) (hl : n.ps.length + n.es.length ≤ 100000) :
  Calls Tryz.prog 76 #[ndV n pv ev] w (RetOwn w (ofL (kidsN n))) := by
 have HP := Lib.hid hp; have HE := Lib.hid he
 obtain ⟨_, a1, cap1, hv1, _, _⟩ := hp
 obtain ⟨_, a2, cap2, hv2, _, _⟩ := he
 subst hv1 hv2
 have hb0 := (Below.refl w.heap.size w).alloc (Nat.le_refl _) (.cells #[.int .i64 n.kd, .string n.d, .slice a1 n.ps.length cap1, .slice a2 n.es.length cap2] 53)
 obtain ⟨V, hV⟩ : ∃ V, V = w.alloc (.cells #[.int .i64 n.kd, .string n.d, .slice a1 n.ps.length cap1, .slice a2 n.es.length cap2] 53) := ⟨_, rfl⟩
 rw [← hV] at hb0
 have HX : Hid (NdBox V w.heap.size n (.slice a1 n.ps.length cap1) (.slice a2 n.es.length cap2)) := Lib.hid (by rw [hV]; exact ndBox_new w n _ _ _)
 have HBV := Lib.hid hb0
 have HB0 := Lib.hid (Below.refl V.heap.size V)
 have HO0 : Hid (OwnTxt V V (.slice none 0 0) (keysP (n.ps.take 0))) := Lib.hid (ownTxt_nil V)
 replace HP := Lib.hid (HP.out.stays hb0); replace HE := Lib.hid (HE.out.stays hb0)
 have HV := Lib.hid hV
 obtain ⟨x0, x1, x2, x3⟩ := HX.out.cells
 clear hb0 hV
 go_enter Tryz.func76, Tryz.ntmps76
 go_wp2_with fail
 rw [← HV.out]
 go_wp2
 go_loopw [3, 11] (fun v i wr => ∃ k : Nat, k ≤ n.ps.length ∧ i = .int .i64 k ∧ OwnTxt V wr v (keysP (n.ps.take k)) ∧ Below V.heap.size V wr) (fun _ i _ => n.ps.length - (intOf i).toNat)
 case atStart => exact ⟨0, Nat.zero_le _, rfl, HO0.out, HB0.out⟩
 case round =>
  clear x0 x1 x2 x3
  obtain ⟨k, hk, rfl, hO, hB⟩ := hrel
  have HO := Lib.hid hO; have HB := Lib.hid hB
  obtain ⟨x0, x1, x2, x3⟩ := (HX.out.stays hB).cells
  have hsz := hB.size
  by_cases hlt : k < n.ps.length
  ·obtain ⟨_, _, _, e, _, hc⟩ := HP.out.stays hB
   cases e
   obtain ⟨b, off, rfl, hbl, g⟩ := hc (by omega)
   obtain ⟨u0, u1⟩ := g k hlt
   clear g hc hO hB
   have hbk : decide ((k : Int) < (n.ps.length : Int)) = true := by simpa using (show (k : Int) < n.ps.length by omega)
   have HST := Lib.hid (keysP_step hlt)
   obtain ⟨x, hx⟩ : ∃ x, x = n.ps[k] := ⟨_, rfl⟩
   rw [← hx] at u0 u1 HST
   clear hx
   have hol : (keysP (n.ps.take k)).length ≤ 1000000 := by rw [keysP_len, List.length_take]; omega
   have hba := (Below.refl wr.heap.size wr).alloc (Nat.le_refl _) (.cells #[.string x.k, .int .i64 x.n] 87)
   have HZ2 : Hid (wr.heap.size + 1 = (wr.alloc (.cells #[.string x.k, .int .i64 x.n] 87)).heap.size) := Lib.hid (by simp)
   have HO2 := Lib.hid (HO.out.stays hba)
   have HB2 := Lib.hid (below_step HB.out hba)
   clear hba
   go_wp2_with (at_builtin; refine wpList_append_txt2 rfl _ _ rfl HO2.out HB2.out HZ2.out rfl rfl hol ?_)
   intro v' w6 hown6 hb6
   have HO6 := Lib.hid hown6; have HB6 := Lib.hid hb6
   clear hown6 hb6 x0 x1 x2 x3
   go_wp2
   go_roundw
   case rel => exact ⟨k + 1, by omega, by go_num, by rw [HST.out]; first | exact HO6.out | (rw [← List.append_assoc]; exact HO6.out) | (rw [List.append_assoc]; exact HO6.out), HB6.out⟩
   case measure => simp [intOf]; omega
  ·have hke : n.ps.take k = n.ps := List.take_of_length_le (by omega)
   rw [hke] at HO
   have HO1 : Hid (OwnTxt V wr _ (keysP n.ps ++ keysE (n.es.take 0))) := Lib.hid (by
    have e : keysP n.ps ++ keysE (n.es.take 0) = keysP n.ps := by rw [List.take_zero]; exact List.append_nil _
    rw [e]; exact HO.out)
   clear hO hB hke HO
   go_wp2
   go_loopw [3, 24] (fun v i wr => ∃ k : Nat, k ≤ n.es.length ∧ i = .int .i64 k ∧ OwnTxt V wr v (keysP n.ps ++ keysE (n.es.take k)) ∧ Below V.heap.size V wr) (fun _ i _ => n.es.length - (intOf i).toNat)
   case atStart => exact ⟨0, Nat.zero_le _, rfl, HO1.out, HB.out⟩
   case round =>
    clear x0 x1 x2 x3
    obtain ⟨k, hk, rfl, hO, hB⟩ := hrel
    have HO := Lib.hid hO; have HB := Lib.hid hB
    obtain ⟨x0, x1, x2, x3⟩ := (HX.out.stays hB).cells
    have hsz := hB.size
    by_cases hlt : k < n.es.length
    ·obtain ⟨_, _, _, e, _, hc⟩ := HE.out.stays hB
     cases e
     obtain ⟨b, off, rfl, hbl, g⟩ := hc (by omega)
     obtain ⟨u0, u1, u2, u3⟩ := g k hlt
     clear g hc hO hB
     have hbk : decide ((k : Int) < (n.es.length : Int)) = true := by simpa using (show (k : Int) < n.es.length by omega)
     have HST := Lib.hid (keysE_step hlt)
     obtain ⟨x, hx⟩ : ∃ x, x = n.es[k] := ⟨_, rfl⟩
     rw [← hx] at u0 u1 u2 u3 HST
     clear hx
     have hol : (keysP n.ps ++ keysE (n.es.take k)).length ≤ 1000000 := by rw [List.length_append, keysP_len, keysE_len, List.length_take]; omega
     have hba := (Below.refl wr.heap.size wr).alloc (Nat.le_refl _) (.cells #[.string x.m, .int .i64 x.kd, .bool x.x, .string x.k] 91)
     have HZ2 : Hid (wr.heap.size + 1 = (wr.alloc (.cells #[.string x.m, .int .i64 x.kd, .bool x.x, .string x.k] 91)).heap.size) := Lib.hid (by simp)
     have HO2 := Lib.hid (HO.out.stays hba)
     have HB2 := Lib.hid (below_step HB.out hba)
     clear hba
     go_wp2_with (at_builtin; refine wpList_append_txt2 rfl _ _ rfl HO2.out HB2.out HZ2.out rfl rfl hol ?_)
     intro v' w6 hown6 hb6
     have HO6 := Lib.hid hown6; have HB6 := Lib.hid hb6
     clear hown6 hb6 x0 x1 x2 x3
     go_wp2
     go_roundw
     case rel => exact ⟨k + 1, by omega, by go_num, by rw [HST.out]; first | exact HO6.out | (rw [← List.append_assoc]; exact HO6.out) | (rw [List.append_assoc]; exact HO6.out), HB6.out⟩
     case measure => simp [intOf]; omega
    ·have hke : n.es.take k = n.es := List.take_of_length_le (by omega)
     rw [hke] at HO
     have hkl : (kidsN n).length ≤ 100000 := by unfold kidsN; rw [List.length_append, keysP_len, keysE_len]; exact hl
     have OF := Lib.hid (Of_own _ _ _ HO.out.strs (by rw [strsOf_len]; show (kidsN n).length ≤ _; omega))
     rw [txts_strsOf] at OF
     clear hO hke
     go_wp2_with fail
     refine OF.out.mono ?_
     rintro e w8 ⟨v8, rfl, hs8, hb8⟩
     have HS := Lib.hid (hs8.low_Ned (W' := w) (Nat.le_trans HBV.out.size hB.size)); have HB8 := Lib.hid (below_step HBV.out (below_step hB hb8))
     obtain ⟨_, a8, c8, hv8, _, _⟩ := hs8.strs
     clear hs8
     subst hv8
     clear hb8 hB
     go_wp2
     go_ret
     exact ⟨_, rfl, HS.out, HB8.out⟩
set_option maxRecDepth 100000 in
set_option maxHeartbeats 2000000 in
theorem refAdd_own (W : World) (v : Value) (M : List Txt) (x : ByteArray) (w : World) (hO : OwnTxt W w v M) (hWw : W.heap.size ≤ w.heap.size) (hM : M.length ≤ 900000) :
  Calls Tryz.prog 60 #[v, .string x] w fun e w' => ∃ v', e = .returned v' ∧ OwnTxt W w' v' (addL M x.data.toList) ∧ Below w.heap.size w w' := by
 have HOW := Lib.hid hO
 obtain ⟨L, hLe⟩ : ∃ L, L = strsOf M := ⟨_, rfl⟩
 have hv : IsStrs w v L := by rw [hLe]; exact hO.strs
 have hML : M = txts L := by rw [hLe, txts_strsOf]
 have hL : L.length ≤ 900000 := by rw [hLe, strsOf_len]; exact hM
 subst hML
 clear hLe hO hM
 have HV := Lib.hid hv
 obtain ⟨hm, a, cap, rfl, _, hc⟩ := hv
 have HC := Lib.hid hc
 clear hc hm
 have CH := fun W (h : IsStrs W (.slice a L.length cap) L) => refHas_any _ L x W h
 by_cases hin : x.data.toList ∈ txts L
 ·rw [show hasB (txts L) x.data.toList = true from decide_eq_true hin] at CH
  have H := Lib.hid (CH w HV.out); clear CH
  have HR : Hid (addL (txts L) x.data.toList = txts L) := Lib.hid (if_pos hin)
  clear hin
  go_enter Tryz.func60, Tryz.ntmps60
  go_wp2_with fail
  refine (H.out).mono ?_
  rintro e w' ⟨rfl, rfl⟩
  go_wp2
  go_ret
  exact ⟨.slice a L.length cap, rfl, by rw [HR.out]; exact HOW.out, Below.refl _ _⟩
 ·rw [show hasB (txts L) x.data.toList = false from decide_eq_false hin] at CH
  have H := Lib.hid (CH w HV.out); clear CH
  have HR : Hid (addL (txts L) x.data.toList = ins (txts L) x.data.toList) := Lib.hid (if_neg hin)
  clear hin
  go_enter Tryz.func60, Tryz.ntmps60
  go_wp2_with fail
  refine (H.out).mono ?_
  rintro e w' ⟨rfl, rfl⟩
  go_wp2
  go_loopw [5, 6, 7] (fun o d i wr => ∃ (k : Nat) (db : Bool) (out : List Txt), k ≤ L.length ∧ i = .int .i64 k ∧ d = .bool db ∧ AddTo (txts L) x.data.toList k db out ∧ OwnTxt w wr o out ∧ Below w.heap.size w wr) (fun _ _ i _ => L.length - (intOf i).toNat)
  case atStart => exact ⟨0, false, [], Nat.zero_le _, rfl, rfl, addTo_zero _ _, ownTxt_nil _, Below.refl _ _⟩
  case round =>
   obtain ⟨k, db, out, hk, rfl, rfl, hA, hO, hB⟩ := hrel
   have hlen := addTo_len hA
   have hol : out.length ≤ 1000000 := by omega
   have HA := Lib.hid hA; have HO := Lib.hid hO
   clear hA hO hlen
   by_cases hlt : k < L.length
   ·obtain ⟨b1, o1, rfl, hbl, g1⟩ := HC.out (by omega)
    have q1 := g1 k hlt
    rw [← hB.cell (p := ⟨b1, o1 + k, none⟩) hbl] at q1
    clear g1
    obtain ⟨y, hy⟩ : ∃ y, y = L[k] := ⟨_, rfl⟩
    have hyl : (txts L)[k]'(by rw [txts_len]; exact hlt) = y.data.toList := by rw [hy, txts_get hlt]
    rw [← hy] at q1
    have HY := Lib.hid hyl; clear hy hyl
    have hbk : decide ((k : Int) < (L.length : Int)) = true := by simpa using (show (k : Int) < L.length by omega)
    have hkl : k < (txts L).length := by rw [txts_len]; exact hlt
    cases db with
    | true =>
     have HS := Lib.hid (addTo_done HA.out hkl)
     go_wp2_with (at_builtin; refine wpList_append_txt rfl _ _ rfl HO.out hB rfl rfl hol ?_)
     intro v' w2 hown' hb2
     go_wp2
     go_roundw
     case rel => exact ⟨k + 1, true, _, by omega, by go_num, rfl, HS.out, by rw [HY.out]; exact hown', hb2⟩
     case measure => simp [intOf]; omega
    | false =>
     by_cases hlx : x.data.toList < y.data.toList
     ·have HS := Lib.hid (addTo_here HA.out hkl (by rw [HY.out]; exact hlx))
      have l1 : Op.bytesLess y.toList x.toList = false := by rw [less_eq]; exact decide_eq_false (t_asymm hlx)
      have l2 : (y.toList == x.toList) = false := beq_false (fun e => t_irrefl _ (e ▸ hlx))
      clear hlx
      have hol2 : (out ++ [x.data.toList]).length ≤ 1000000 := by have := HA.out.1; simp at this; rw [List.length_append, List.length_singleton]; omega
      go_wp2_with (at_builtin; refine wpList_append_txt rfl _ _ rfl HO.out hB rfl rfl hol ?_)
      intro v1 w1 hown1 hb1
      have q2 := (hb1.cell (p := ⟨b1, o1 + k, none⟩) hbl).trans ((hB.cell (p := ⟨b1, o1 + k, none⟩) hbl).symm.trans q1)
      have HO1 := Lib.hid hown1
      clear hown1
      go_wp2_with (at_builtin; refine wpList_append_txt rfl _ _ rfl HO1.out hb1 rfl rfl hol2 ?_)
      intro v' w2 hown' hb2
      go_wp2
      go_roundw
      case rel => exact ⟨k + 1, true, _, by omega, by go_num, rfl, HS.out, by rw [HY.out]; simpa using hown', hb2⟩
      case measure => simp [intOf]; omega
     ·have HS := Lib.hid (addTo_past HA.out hkl (by rw [HY.out]; exact hlx))
      have l0 : (Op.bytesLess y.toList x.toList || (y.toList == x.toList)) = true := by
       rw [less_eq]
       by_cases e : y = x
       ·rw [beq_true e, Bool.or_true]
       ·rw [decide_eq_true (Classical.byContradiction fun c => e (str_eq' (t_tri _ _ c hlx))), Bool.true_or]
      clear hlx
      go_wp2_with (at_builtin; refine wpList_append_txt rfl _ _ rfl HO.out hB rfl rfl hol ?_)
      intro v' w2 hown' hb2
      go_wp2
      go_roundw
      case rel => exact ⟨k + 1, false, _, by omega, by go_num, rfl, HS.out, by rw [HY.out]; exact hown', hb2⟩
      case measure => simp [intOf]; omega
   ·have HE := Lib.hid (addTo_end HA.out (by rw [txts_len]; omega))
    have hge : decide ((k : Int) < (L.length : Int)) = false := by simp; omega
    cases db with
    | true =>
     go_wp2
     go_ret
     exact ⟨u5, rfl, by have h := HO.out.low_Ned hWw; rw [HR.out, ← HE.out]; simpa using h, hB⟩
    | false =>
     go_wp2_with (at_builtin; refine wpList_append_txt rfl _ _ rfl HO.out hB rfl rfl hol ?_)
     intro v' w2 hown' hb2
     go_wp2
     go_ret
     exact ⟨v', rfl, by have h := hown'.low_Ned hWw; rw [HR.out, ← HE.out]; simpa using h, hb2⟩
set_option maxRecDepth 100000 in
set_option maxHeartbeats 2000000 in
theorem refOf_own (v : Value) (L : List ByteArray) (w : World) (hv : IsStrs w v L) (hL : L.length ≤ 800000) :
  Calls Tryz.prog 44 #[v] w (RetOwn w (ofL (txts L))) := by
 obtain ⟨hm, a, cap, rfl, _, hc⟩ := hv
 have HC := Lib.hid hc
 clear hc hm
 go_enter Tryz.func44, Tryz.ntmps44
 go_wp2
 go_loopw [3, 4] (fun o i wr => ∃ k : Nat, k ≤ L.length ∧ i = .int .i64 k ∧ OwnTxt w wr o (OfTo (txts L) k) ∧ Below w.heap.size w wr) (fun _ i _ => L.length - (intOf i).toNat)
 case atStart => exact ⟨0, Nat.zero_le _, rfl, ownTxt_nil _, Below.refl _ _⟩
 case round =>
  obtain ⟨k, hk, rfl, hO, hB⟩ := hrel
  have HO := Lib.hid hO
  clear hO
  by_cases hlt : k < L.length
  ·obtain ⟨b1, o1, rfl, hbl, g1⟩ := HC.out (by omega)
   have q1 := g1 k hlt
   rw [← hB.cell (p := ⟨b1, o1 + k, none⟩) hbl] at q1
   clear g1
   have hst := ofTo_step (l := txts L) (k := k) (by rw [txts_len]; exact hlt)
   rw [txts_get hlt] at hst
   obtain ⟨y, hy⟩ : ∃ y, y = L[k] := ⟨_, rfl⟩
   rw [← hy] at q1 hst
   clear hy
   rw [← Lib.size_eq] at hst
   have hbk : decide ((k : Int) < (L.length : Int)) = true := by simpa using (show (k : Int) < L.length by omega)
   by_cases h32 : y.size = 32
   ·rw [if_pos h32] at hst
    have h32b : (((y.size : Nat) : Int) == 32) = true := by rw [h32]; rfl
    have CA := refAdd_own w _ (OfTo (txts L) k) y wr HO.out hB.size (by have := ofTo_len (txts L) k; omega)
    rw [← hst] at CA
    have HA := Lib.hid CA; clear CA hst h32
    go_wp2_with fail
    refine (HA.out).mono ?_
    rintro e w1 ⟨v1, rfl, hv1, hb1⟩
    have HV1 := Lib.hid hv1; clear hv1
    go_wp2
    go_roundw
    case rel => exact ⟨k + 1, by omega, by go_num, HV1.out, below_step hB hb1⟩
    case measure => simp [intOf]; omega
   ·rw [if_neg h32] at hst
    have HST := Lib.hid hst; clear hst
    have h32b : (((y.size : Nat) : Int) == 32) = false := by simp; omega
    go_wp2
    go_roundw
    case rel => exact ⟨k + 1, by omega, by go_num, by rw [HST.out]; exact HO.out, hB⟩
    case measure => simp [intOf]; omega
  ·have hE : OfTo (txts L) k = ofL (txts L) := by
    rw [← refOf_eq]; unfold OfTo refOfL
    rw [List.take_of_length_le (by rw [txts_len]; omega)]
   have HE := Lib.hid hE; clear hE
   have hge : decide ((k : Int) < (L.length : Int)) = false := by simp; omega
   go_wp2
   go_ret
   exact ⟨u3, rfl, by rw [← HE.out]; exact HO.out, hB⟩
set_option maxRecDepth 100000 in
set_option maxHeartbeats 2000000 in
theorem rKids_own (n : Nd) (pv ev : Value) (w : World) (hp : IsParts w pv n.ps) (he : IsEntries w ev n.es) (hl : n.ps.length + n.es.length ≤ 2000) :
  Calls Tryz.prog 26 #[ndV n pv ev] w (RetOwn w (ofL (kidsN n))) := by
 have HP := Lib.hid hp; have HE := Lib.hid he
 obtain ⟨_, a1, cap1, hv1, _, _⟩ := hp
 obtain ⟨_, a2, cap2, hv2, _, _⟩ := he
 subst hv1 hv2
 have hb0 := (Below.refl w.heap.size w).alloc (Nat.le_refl _) (.cells #[.int .i64 n.kd, .string n.d, .slice a1 n.ps.length cap1, .slice a2 n.es.length cap2] 53)
 obtain ⟨V, hV⟩ : ∃ V, V = w.alloc (.cells #[.int .i64 n.kd, .string n.d, .slice a1 n.ps.length cap1, .slice a2 n.es.length cap2] 53) := ⟨_, rfl⟩
 rw [← hV] at hb0
 have HX : Hid (NdBox V w.heap.size n (.slice a1 n.ps.length cap1) (.slice a2 n.es.length cap2)) := Lib.hid (by rw [hV]; exact ndBox_new w n _ _ _)
 have HBV := Lib.hid hb0
 have HB0 := Lib.hid (Below.refl V.heap.size V)
 have HO0 : Hid (OwnTxt V V (.slice none 0 0) (keysP (n.ps.take 0))) := Lib.hid (ownTxt_nil V)
 replace HP := Lib.hid (HP.out.stays hb0); replace HE := Lib.hid (HE.out.stays hb0)
 have HV := Lib.hid hV
 obtain ⟨x0, x1, x2, x3⟩ := HX.out.cells
 clear hb0 hV
 go_enter Tryz.func26, Tryz.ntmps26
 go_wp2_with fail
 rw [← HV.out]
 go_wp2
 go_loopw [3, 4] (fun v i wr => ∃ k : Nat, k ≤ n.ps.length ∧ i = .int .i64 k ∧ OwnTxt V wr v (keysP (n.ps.take k)) ∧ Below V.heap.size V wr) (fun _ i _ => n.ps.length - (intOf i).toNat)
 case atStart => exact ⟨0, Nat.zero_le _, rfl, HO0.out, HB0.out⟩
 case round =>
  clear x0 x1 x2 x3
  obtain ⟨k, hk, rfl, hO, hB⟩ := hrel
  have HO := Lib.hid hO; have HB := Lib.hid hB
  obtain ⟨x0, x1, x2, x3⟩ := (HX.out.stays hB).cells
  have hsz := hB.size
  by_cases hlt : k < n.ps.length
  ·obtain ⟨_, _, _, e, _, hc⟩ := HP.out.stays hB
   cases e
   obtain ⟨b, off, rfl, hbl, g⟩ := hc (by omega)
   obtain ⟨u0, u1⟩ := g k hlt
   clear g hc hO hB
   have hbk : decide ((k : Int) < (n.ps.length : Int)) = true := by simpa using (show (k : Int) < n.ps.length by omega)
   have HST := Lib.hid (keysP_step hlt)
   obtain ⟨x, hx⟩ : ∃ x, x = n.ps[k] := ⟨_, rfl⟩
   rw [← hx] at u0 u1 HST
   clear hx
   have hol : (keysP (n.ps.take k)).length ≤ 1000000 := by rw [keysP_len, List.length_take]; omega
   have HO2 := HO
   have HB2 := HB
   have HZ2 : Hid (wr.heap.size = wr.heap.size) := Lib.hid rfl
   have hba := Below.refl wr.heap.size wr
   clear hba
   go_wp2_with (at_builtin; refine wpList_append_txt2 rfl _ _ rfl HO2.out HB2.out HZ2.out rfl rfl hol ?_)
   intro v' w6 hown6 hb6
   have HO6 := Lib.hid hown6; have HB6 := Lib.hid hb6
   clear hown6 hb6 x0 x1 x2 x3
   go_wp2
   go_roundw
   case rel => exact ⟨k + 1, by omega, by go_num, by rw [HST.out]; first | exact HO6.out | (rw [← List.append_assoc]; exact HO6.out) | (rw [List.append_assoc]; exact HO6.out), HB6.out⟩
   case measure => simp [intOf]; omega
  ·have hke : n.ps.take k = n.ps := List.take_of_length_le (by omega)
   rw [hke] at HO
   have HO1 : Hid (OwnTxt V wr _ (keysP n.ps ++ keysE (n.es.take 0))) := Lib.hid (by
    have e : keysP n.ps ++ keysE (n.es.take 0) = keysP n.ps := by rw [List.take_zero]; exact List.append_nil _
    rw [e]; exact HO.out)
   clear hO hB hke HO
   go_wp2
   go_loopw [3, 5] (fun v i wr => ∃ k : Nat, k ≤ n.es.length ∧ i = .int .i64 k ∧ OwnTxt V wr v (keysP n.ps ++ keysE (n.es.take k)) ∧ Below V.heap.size V wr) (fun _ i _ => n.es.length - (intOf i).toNat)
   case atStart => exact ⟨0, Nat.zero_le _, rfl, HO1.out, HB.out⟩
   case round =>
    clear x0 x1 x2 x3
    obtain ⟨k, hk, rfl, hO, hB⟩ := hrel
    have HO := Lib.hid hO; have HB := Lib.hid hB
    obtain ⟨x0, x1, x2, x3⟩ := (HX.out.stays hB).cells
    have hsz := hB.size
    by_cases hlt : k < n.es.length
    ·obtain ⟨_, _, _, e, _, hc⟩ := HE.out.stays hB
     cases e
     obtain ⟨b, off, rfl, hbl, g⟩ := hc (by omega)
     obtain ⟨u0, u1, u2, u3⟩ := g k hlt
     clear g hc hO hB
     have hbk : decide ((k : Int) < (n.es.length : Int)) = true := by simpa using (show (k : Int) < n.es.length by omega)
     have HST := Lib.hid (keysE_step hlt)
     obtain ⟨x, hx⟩ : ∃ x, x = n.es[k] := ⟨_, rfl⟩
     rw [← hx] at u0 u1 u2 u3 HST
     clear hx
     have hol : (keysP n.ps ++ keysE (n.es.take k)).length ≤ 1000000 := by rw [List.length_append, keysP_len, keysE_len, List.length_take]; omega
     have HO2 := HO
     have HB2 := HB
     have HZ2 : Hid (wr.heap.size = wr.heap.size) := Lib.hid rfl
     have hba := Below.refl wr.heap.size wr
     clear hba
     go_wp2_with (at_builtin; refine wpList_append_txt2 rfl _ _ rfl HO2.out HB2.out HZ2.out rfl rfl hol ?_)
     intro v' w6 hown6 hb6
     have HO6 := Lib.hid hown6; have HB6 := Lib.hid hb6
     clear hown6 hb6 x0 x1 x2 x3
     go_wp2
     go_roundw
     case rel => exact ⟨k + 1, by omega, by go_num, by rw [HST.out]; first | exact HO6.out | (rw [← List.append_assoc]; exact HO6.out) | (rw [List.append_assoc]; exact HO6.out), HB6.out⟩
     case measure => simp [intOf]; omega
    ·have hke : n.es.take k = n.es := List.take_of_length_le (by omega)
     rw [hke] at HO
     have hkl : (kidsN n).length ≤ 2000 := by unfold kidsN; rw [List.length_append, keysP_len, keysE_len]; exact hl
     have OF := Lib.hid (refOf_own _ _ _ HO.out.strs (by rw [strsOf_len]; show (kidsN n).length ≤ _; omega))
     rw [txts_strsOf] at OF
     clear hO hke
     go_wp2_with fail
     refine OF.out.mono ?_
     rintro e w8 ⟨v8, rfl, hs8, hb8⟩
     have HS := Lib.hid (hs8.low_Ned (Nat.le_trans HBV.out.size hB.size)); have HB8 := Lib.hid (below_step HBV.out (below_step hB hb8))
     obtain ⟨_, a8, c8, hv8, _, _⟩ := hs8.strs
     subst hv8
     clear hb8 hB hs8
     go_wp2
     go_ret
     exact ⟨_, rfl, HS.out, HB8.out⟩
end Go.Proofs.YtokknppjeckppaaGreatDoor
set_option linter.unusedVariables false
namespace Go.Proofs.YtokknppjeckppaaGreatDoor
open Go.RowKit Go.Extern.Stop Go.Stop Go.Extern
abbrev errK (k : Int) : Value := .iface 33 (.int .i64 k)
abbrev faultV (s : ByteArray) (k : Int) : Value := .iface 136 (.agg #[.string s, errK k])
theorem errnoType (v : Value) (w : World) : (ReflectliteType.typeOf #[.iface 33 v]).run Tryz.prog w = .ok (.iface 160 (.agg #[.pointer (some ⟨2, 33, none⟩)])) w := by kernel_rfl
theorem errnoComparable (w : World) : ((ReflectliteType.method fun t => do Rtype.noPackHeld "Comparable" t; (fun a => Value.bool a.comparable) <$> typeInfo t) #[.agg #[.pointer (some ⟨2, 33, none⟩)]]).run Tryz.prog w = .ok (.bool true) w := by kernel_rfl
theorem methodComparable (n : Nat) (v : Value) (w : World) : (Go.method (n + 1) 160 v "Comparable").run Tryz.prog w = .ok (208, v) w := by kernel_rfl
theorem noIsF (v : Value) (xT : TypeId) (w : World) : (Instr.typeAssert (.iface 136 v) xT 162 true).run Tryz.prog w = .ok (.tuple #[.nilIface, .bool false]) w := run_typeAssert_lacksB Tryz.underlying162 (by kernel_rfl) (by kernel_rfl) v xT w
theorem hasUnwrapF (v : Value) (xT : TypeId) (w : World) : (Instr.typeAssert (.iface 136 v) xT 165 true).run Tryz.prog w = .ok (.tuple #[.iface 136 v, .bool true]) w := run_typeAssert_hasB Tryz.underlying165 (by kernel_rfl) v xT w
theorem noIsK (v : Value) (xT : TypeId) (w : World) : (Instr.typeAssert (.iface 33 v) xT 162 true).run Tryz.prog w = .ok (.tuple #[.nilIface, .bool false]) w := run_typeAssert_lacksB Tryz.underlying162 (by kernel_rfl) (by kernel_rfl) v xT w
theorem noUnwrapK (v : Value) (xT : TypeId) (w : World) : (Instr.typeAssert (.iface 33 v) xT 165 true).run Tryz.prog w = .ok (.tuple #[.nilIface, .bool false]) w := run_typeAssert_lacksB Tryz.underlying165 (by kernel_rfl) (by kernel_rfl) v xT w
theorem noUnwrapsK (v : Value) (xT : TypeId) (w : World) : (Instr.typeAssert (.iface 33 v) xT 167 true).run Tryz.prog w = .ok (.tuple #[.nilIface, .bool false]) w := run_typeAssert_lacksB Tryz.underlying167 (by kernel_rfl) (by kernel_rfl) v xT w
theorem methodUnwrapF (n : Nat) (v : Value) (w : World) : (Go.method (n + 1) 136 v "Unwrap").run Tryz.prog w = .ok (203, v) w := by kernel_rfl
theorem errnoEq (a b : Int) (w : World) : (binOp .eql 121 (errK a) (errK b)).run Tryz.prog w = .ok (.bool (a == b)) w := by kernel_rfl
theorem is_nil_any (k : Int) (w : World) : Calls Tryz.prog 74 #[.nilIface, errK k] w fun e w' => e = .returned (.bool false) ∧ w' = w := by
 have hn := run_eql_iface_nil_left (P := Tryz.prog) w 33 (.int .i64 k) Tryz.underlying121
 go_enter Tryz.func74, Tryz.ntmps74
 go_wp2
 go_ret
 exact ⟨rfl, rfl⟩
set_option maxRecDepth 100000 in
set_option maxHeartbeats 2000000 in
theorem is_fault (s : ByteArray) (a b : Int) (w : World) : Calls Tryz.prog 74 #[faultV s a, errK b] w fun e w' => e = .returned (.bool (a == b)) ∧ Below w.heap.size w w' := by
 have h8 := @run_callFunc_extern Tryz.prog 97 _ ReflectliteType.typeOf Tryz.func97 (by kernel_rfl) (by kernel_rfl) (by kernel_rfl) (by kernel_rfl)
 have h32 := @run_callFunc_extern Tryz.prog 208 _ (ReflectliteType.method fun t => do Rtype.noPackHeld "Comparable" t; pure (.bool (← typeInfo t).comparable)) Tryz.func208 (by kernel_rfl) (by kernel_rfl) (by kernel_rfl) (by kernel_rfl)
 have tT := errnoType
 have cT := errnoComparable
 have mR := methodComparable
 have n1 := noIsF
 have n2 := hasUnwrapF
 have n3 := noIsK
 have n4 := noUnwrapK
 have n5 := noUnwrapsK
 have n6 := methodUnwrapF
 have eq1 := errnoEq a b
 have HB := Lib.hid ((Below.refl w.heap.size w).alloc (Nat.le_refl _) (.cells #[.string s, errK a] 136))
 have hty := run_eql_iface_types (P := Tryz.prog) 136 33 (.agg #[.string s, errK a]) (.int .i64 b) Tryz.underlying121 (by decide) w
 go_enter Tryz.func74, Tryz.ntmps74
 by_cases h : a = b
 ·subst h
  have hb : (a == a) = true := beq_self_eq_true a
  rw [hb] at eq1 ⊢
  go_wp2
  refine wp_loop_rounds 2 ?_
  rw [rounds_succ]
  go_wp2
  rw [rounds_succ]
  go_wp2
  go_ret
  exact ⟨rfl, HB.out⟩
 ·have hb : (a == b) = false := beq_eq_false_iff_ne.2 h
  rw [hb] at eq1 ⊢
  clear h
  go_wp2
  refine wp_loop_rounds 2 ?_
  rw [rounds_succ]
  go_wp2
  rw [rounds_succ]
  go_wp2
  go_ret
  exact ⟨rfl, HB.out⟩
end Go.Proofs.YtokknppjeckppaaGreatDoor
set_option linter.unusedVariables false
namespace Go.Proofs.YtokknppjeckppaaGreatDoor
open Go.RowKit
attribute [local go_sem] Oper.semAt_some
def wrongs : List Int := [5, 11, 2, 10, 8, 9, 4]
def few1 (L : List ByteArray) : Prop := L.length ≤ 200 ∧ ∀ s ∈ L, s.size ≤ 200
instance (L : List ByteArray) : Decidable (few1 L) := by unfold few1; infer_instance
def lenOf_Keh : Value → Nat
 | .slice _ n _ => n
 | _ => 0
theorem IsStrs.lenOf {w : World} {v : Value} {L : List ByteArray} (h : IsStrs w v L) : lenOf_Keh v = L.length := by
 obtain ⟨_, a, cap, rfl, _⟩ := h; rfl
end Go.Proofs.YtokknppjeckppaaGreatDoor
set_option linter.unusedVariables false
namespace Go.Proofs.YtokknppjeckppaaGreatDoor
open Go.RowKit
set_option maxRecDepth 100000 in
set_option maxHeartbeats 1000000 in
theorem size43 : (Tryz.prog.info? 213).map (·.size) = some 64 := by kernel_rfl
theorem size24 : (Tryz.prog.info? 184).map (·.size) = some 8 := by kernel_rfl
theorem zero43 : (Tryz.prog.info? 213).bind (fun i => i.zero.map (·.cells)) = some (zrow 64) := by kernel_rfl
theorem zero24 : (Tryz.prog.info? 184).bind (fun i => i.zero.map (·.cells)) = some (zrow 8) := by kernel_rfl
def kint : List Int := [1116352408, 1899447441, 3049323471, 3921009573, 961987163, 1508970993, 2453635748, 2870763221, 3624381080, 310598401, 607225278, 1426881987, 1925078388, 2162078206, 2614888103, 3248222580, 3835390401, 4022224774, 264347078, 604807628, 770255983, 1249150122, 1555081692, 1996064986, 2554220882, 2821834349, 2952996808, 3210313671, 3336571891, 3584528711, 113926993, 338241895, 666307205, 773529912, 1294757372, 1396182291, 1695183700, 1986661051, 2177026350, 2456956037, 2730485921, 2820302411, 3259730800, 3345764771, 3516065817, 3600352804, 4094571909, 275423344, 430227734, 506948616, 659060556, 883997877, 958139571, 1322822218, 1537002063, 1747873779, 1955562222, 2024104815, 2227730452, 2361852424, 2428436474, 2756734187, 3204031479, 3329325298]
theorem kint_eq : (kint.map (Value.int .u32)).toArray = numV ktab := by kernel_rfl
theorem ktab_len : ktab.length = 64 := rfl
set_option maxRecDepth 100000 in
set_option maxHeartbeats 1000000 in
theorem refConstants_any (w : World) : Calls Tryz.prog 147 #[] w fun e w' => e = .returned (.agg (numV ktab)) ∧ Below w.heap.size w w' := by
 go_enter Tryz.func147, Tryz.ntmps147
 go_wp2_with (first
  | refine wpList_alloc_zero rfl _ rfl _ zero43 ?_
  | (refine Great.wpList_buildFlatArr rfl 213 179 64 _ rfl .u32 kint Tryz.underlying213 (by kernel_rfl) (by kernel_rfl) (by kernel_rfl) ?_; rw [kint_eq])
  | refine wpList_store_row rfl 213 _ _ rfl w.heap.size (numV ktab) rfl rfl 213 (zrow 64) (heap_alloc_new _ _) (by rw [numV_size]; exact size43) (by rw [numV_size]; kernel_rfl) (numV_one _) ?_)
 refine bodyPost_ret (v := .agg (numV ktab)) (results_cell_row rfl _ _ w.heap.size 213 (numV ktab) (0, 0) _ rfl (setRow_heap _ _ (zrow 64) _ _ _ (heap_alloc_new _ _)) Tryz.underlying213 rfl (by rw [numV_size]; kernel_rfl)) rfl ⟨rfl, below_setRow ((Below.refl _ _).alloc (Nat.le_refl _) _) (Nat.le_refl _) _⟩
set_option maxRecDepth 100000 in
set_option maxHeartbeats 1000000 in
theorem refFirst_any (w : World) : Calls Tryz.prog 124 #[] w fun e w' => e = .returned (.agg (numV first.list)) ∧ Below w.heap.size w w' := by
 go_enter Tryz.func124, Tryz.ntmps124
 go_wp2_with (first
  | refine wpList_alloc_zero rfl _ rfl _ zero24 ?_
  | refine wpList_store_row rfl 184 _ _ rfl w.heap.size (numV first.list) rfl rfl 184 (zrow 8) (heap_alloc_new _ _) (by rw [numV_size]; exact size24) (by rw [numV_size]; kernel_rfl) (numV_one _) ?_)
 refine bodyPost_ret (v := .agg (numV first.list)) (results_cell_row rfl _ _ w.heap.size 184 (numV first.list) (0, 0) _ rfl (setRow_heap _ _ (zrow 8) _ _ _ (heap_alloc_new _ _)) Tryz.underlying184 rfl (by rw [numV_size]; kernel_rfl)) rfl ⟨rfl, below_setRow ((Below.refl _ _).alloc (Nat.le_refl _) _) (Nat.le_refl _) _⟩
end Go.Proofs.YtokknppjeckppaaGreatDoor
set_option linter.unusedVariables false
set_option pp.maxSteps 200000
namespace Go.Proofs.YtokknppjeckppaaGreatDoor
open Go.RowKit
set_option maxRecDepth 100000 in
set_option maxHeartbeats 1000000 in
theorem rotr_int (x n : Nat) (hx : x < 4294967296) (h0 : 1 ≤ n) (h1 : n ≤ 31) : bits .or .u32 ((x : Int) / 2 ^ n) ((x : Int) * 2 ^ (32 - n) % 4294967296) = (rotr x n : Nat) := by
 have e1 : (x : Int) / 2 ^ n = ((x / 2 ^ n : Nat) : Int) := by rw [Int.natCast_ediv, Int.natCast_pow]; rfl
 have e2 : (x : Int) * 2 ^ (32 - n) % 4294967296 = ((x * 2 ^ (32 - n) % 4294967296 : Nat) : Int) := by rw [Int.natCast_emod, Int.natCast_mul, Int.natCast_pow]; rfl
 rw [e1, e2, u32_or_nat _ _ (Nat.lt_of_le_of_lt (Nat.div_le_self _ _) hx) (Nat.mod_lt _ (by decide))]; rfl
theorem rot_any (x n : Nat) (hx : x < 4294967296) (h0 : 1 ≤ n) (h1 : n ≤ 31) (w : World) : Calls Tryz.prog 148 #[.int .u32 x, .int .u64 n] w fun e w' => e = .returned (.int .u32 (rotr x n)) ∧ w = w' := by
 go_enter Tryz.func148, Tryz.ntmps148
 go_wp2
 go_ret
 exact ⟨congrArg (fun z => Ending.returned (.int .u32 z)) (rotr_int x n hx h0 h1), rfl⟩
theorem rot_z (x : Nat) (z : Int) (hx : x < 4294967296) (h : 1 ≤ z ∧ z ≤ 31) (w : World) : Calls Tryz.prog 148 #[.int .u32 x, .int .u64 z] w fun e w' => e = .returned (.int .u32 (rotr x z.toNat)) ∧ w = w' := by
 have := rot_any x z.toNat hx (by omega) (by omega) w
 rwa [show ((z.toNat : Nat) : Int) = z by omega] at this
theorem xor3_int (a b c : Nat) (ha : a < 4294967296) (hb : b < 4294967296) (hc : c < 4294967296) : bits .xor .u32 (bits .xor .u32 (a : Int) (b : Int)) (c : Int) = ((a ^^^ b ^^^ c : Nat) : Int) := by
 rw [u32_xor_nat _ _ ha hb, u32_xor_nat _ _ (xor_lt ha hb) hc]
theorem sg0_int (x : Nat) (h : x < 4294967296) : bits .xor .u32 (bits .xor .u32 (rotr x 7 : Nat) (rotr x 18 : Nat)) ((x : Int) / 8) = (sg0 x : Nat) := by
 rw [show (x : Int) / 8 = ((x / 8 : Nat) : Int) by omega, xor3_int _ _ _ (rotr_lt _ h) (rotr_lt _ h) (by omega)]; rfl
theorem sg1_int (x : Nat) (h : x < 4294967296) : bits .xor .u32 (bits .xor .u32 (rotr x 17 : Nat) (rotr x 19 : Nat)) ((x : Int) / 1024) = (sg1 x : Nat) := by
 rw [show (x : Int) / 1024 = ((x / 1024 : Nat) : Int) by omega, xor3_int _ _ _ (rotr_lt _ h) (rotr_lt _ h) (by omega)]; rfl
theorem ad4_int (a b c d : Nat) : ((a : Int) + b + c + d) % 4294967296 = (ad (ad (ad a b) c) d : Nat) := by unfold ad; omega
theorem or3_int (a b c d : Nat) (ha : a < 256) (hb : b < 256) (hc : c < 256) (hd : d < 256) :
  bits .or .u32 (bits .or .u32 (bits .or .u32 ((a : Int) % 4294967296 * 16777216 % 4294967296) ((b : Int) % 4294967296 * 65536 % 4294967296)) ((c : Int) % 4294967296 * 256 % 4294967296)) ((d : Int) % 4294967296) =
   ((a * 16777216 % 4294967296 ||| b * 65536 % 4294967296 ||| c * 256 % 4294967296 ||| d : Nat) : Int) := by
 have e1 : (a : Int) % 4294967296 * 16777216 % 4294967296 = ((a * 16777216 % 4294967296 : Nat) : Int) := by omega
 have e2 : (b : Int) % 4294967296 * 65536 % 4294967296 = ((b * 65536 % 4294967296 : Nat) : Int) := by omega
 have e3 : (c : Int) % 4294967296 * 256 % 4294967296 = ((c * 256 % 4294967296 : Nat) : Int) := by omega
 have e4 : (d : Int) % 4294967296 = ((d : Nat) : Int) := by omega
 have l1 : a * 16777216 % 4294967296 < 4294967296 := Nat.mod_lt _ (by decide)
 have l2 : b * 65536 % 4294967296 < 4294967296 := Nat.mod_lt _ (by decide)
 have l3 : c * 256 % 4294967296 < 4294967296 := Nat.mod_lt _ (by decide)
 rw [e1, e2, e3, e4, u32_or_nat _ _ l1 l2, u32_or_nat _ _ (or_lt l1 l2) l3, u32_or_nat _ _ (or_lt (or_lt l1 l2) l3) (by omega)]
end Go.Proofs.YtokknppjeckppaaGreatDoor
set_option linter.unusedVariables false
set_option pp.maxSteps 200000
namespace Go.Proofs.YtokknppjeckppaaGreatDoor
open Go.RowKit
set_option maxRecDepth 100000 in
set_option maxHeartbeats 1000000 in
set_option maxRecDepth 100000 in
set_option maxHeartbeats 1000000 in
theorem refWords_any (l : List UInt8) (hl : l.length = 64) (w : World) : Calls Tryz.prog 146 #[.agg (bytV l)] w fun e w' => e = .returned (.agg (numV (wlist (fun i => (l.getD i 0).toNat) 64))) ∧ Below w.heap.size w w' := by
 obtain ⟨L, hL⟩ : ∃ L : Nat → Nat, L = fun i => (l.getD i 0).toNat := ⟨_, rfl⟩
 have HL := Lib.hid hL
 have hl8 : ∀ i, L i < 256 := fun i => by rw [hL]; exact UInt8.toNat_lt _
 rw [← hL]
 clear hL
 go_enter Tryz.func146, Tryz.ntmps146
 go_wp2_with (first
  | refine wpList_alloc_zero rfl _ rfl _ zero43 ?_)
 go_loopw [4] (fun i wr => ∃ k : Nat, k ≤ 16 ∧ i = .int .i64 k ∧ Row wr w.heap.size (bytV l) 186 ∧ Row wr (w.heap.size + 1) (zrow 64) 213 ∧ Row wr (w.heap.size + 1 + 1) (numV (wrow L k)) 213 ∧ Below w.heap.size w wr) (fun i _ => 16 - (intOf i).toNat)
 case atStart => 
  refine ⟨0, by omega, rfl, ?_, ?_, ?_, ?_⟩
  ·exact ((Row.made _ _ _).alloc _).alloc _
  ·have := (Row.made (w.alloc (.cells (bytV l) 186)) (zrow 64) 213).alloc (.cells (zrow 64) 213)
   simpa using this
  ·show Row _ _ (zrow 64) _
   have := Row.made ((w.alloc (.cells (bytV l) 186)).alloc (.cells (zrow 64) 213)) (zrow 64) 213
   simpa using this
  ·exact (((Below.refl _ _).alloc (Nat.le_refl _) _).alloc (by simp) _).alloc (by simp; omega) _
 case round =>
  obtain ⟨k, hk, rfl, hB, hZ, hR, hb⟩ := hrel
  by_cases hlt : k < 16
  ·have hbk : decide ((k : Int) < 16) = true := by simpa using (show (k : Int) < 16 by omega)
   have c0 : wr.cell? ⟨w.heap.size, k * 4, none⟩ = some (.int .u8 (L (k * 4))) := by rw [hB.cell, bytV_get _ _ (by omega), HL.out]
   have c1 : wr.cell? ⟨w.heap.size, k * 4 + 1, none⟩ = some (.int .u8 (L (k * 4 + 1))) := by rw [hB.cell, bytV_get _ _ (by omega), HL.out]
   have c2 : wr.cell? ⟨w.heap.size, k * 4 + 2, none⟩ = some (.int .u8 (L (k * 4 + 2))) := by rw [hB.cell, bytV_get _ _ (by omega), HL.out]
   have c3 : wr.cell? ⟨w.heap.size, k * 4 + 3, none⟩ = some (.int .u8 (L (k * 4 + 3))) := by rw [hB.cell, bytV_get _ _ (by omega), HL.out]
   have cf := hR.free k
   have cr : wr.cell? ⟨w.heap.size + 1 + 1, k, none⟩ = some (.int .u32 0) := by
    rw [hR.cell, numV_get _ _ (by rw [wrow_len _ _ (by omega)]; omega), wrow, List.getD_eq_getElem?_getD, List.getElem?_append_right (by rw [wlist_len]; exact Nat.le_refl _), List.getElem?_replicate]
    split <;> rfl
   have t0 : (4 * (k : Int)).toNat = k * 4 := by omega
   have t1 : (4 * (k : Int) + 1).toNat = k * 4 + 1 := by omega
   have t2 : (4 * (k : Int) + 2).toNat = k * 4 + 2 := by omega
   have t3 : (4 * (k : Int) + 3).toNat = k * 4 + 3 := by omega
   have s0 : IntKind.i64.wrap (4 * (k : Int)) = 4 * (k : Int) := IntWalk.i64_in _ (by omega)
   have s1 : IntKind.i64.wrap (4 * (k : Int) + 1) = 4 * (k : Int) + 1 := IntWalk.i64_in _ (by omega)
   have s2 : IntKind.i64.wrap (4 * (k : Int) + 2) = 4 * (k : Int) + 2 := IntWalk.i64_in _ (by omega)
   have s3 : IntKind.i64.wrap (4 * (k : Int) + 3) = 4 * (k : Int) + 3 := IntWalk.i64_in _ (by omega)
   have b0 : (0 : Int) ≤ 4 * (k : Int) ∧ 4 * (k : Int) < 64 := by omega
   have b1 : (0 : Int) ≤ 4 * (k : Int) + 1 ∧ 4 * (k : Int) + 1 < 64 := by omega
   have b2 : (0 : Int) ≤ 4 * (k : Int) + 2 ∧ 4 * (k : Int) + 2 < 64 := by omega
   have b3 : (0 : Int) ≤ 4 * (k : Int) + 3 ∧ 4 * (k : Int) + 3 < 64 := by omega
   have b4 : (0 : Int) ≤ (k : Int) ∧ (k : Int) < 64 := by omega
   have HB := Lib.hid hB; have HR := Lib.hid hR; have HZ := Lib.hid hZ
   clear hB hR hZ
   go_wp2_with fail
   go_still_tail 31, (by kernel_rfl)
   change wpList _ _ _ _ _ wr.drew
   clear t0 t1 t2 t3 s0 s1 s2 s3 b0 b1 b2 b3 c0 c1 c2 c3
   go_wp2
   go_roundw
   case rel => 
    refine ⟨k + 1, by omega, by go_num, ?_, ?_, ?_, ?_⟩
    ·exact (Row.drew HB.out).other _ _ (by show w.heap.size ≠ w.heap.size + 1 + 1; omega)
    ·exact (Row.drew HZ.out).other _ _ (by show w.heap.size + 1 ≠ w.heap.size + 1 + 1; omega)
    ·have := (Row.drew HR.out).set k (.int .u32 (lead L k : Nat))
     rw [numV_set, ← nxt_lead L (wlist L k) k hlt, wrow_set L k (by omega), nxt_lead L (wlist L k) k hlt] at this
     rw [or3_int _ _ _ _ (hl8 _) (hl8 _) (hl8 _) (hl8 _)]
     exact this
    ·exact (hb.drew).setCell (by show w.heap.size ≤ w.heap.size + 1 + 1; omega) _
   case measure => simp [intOf]; omega
  ·have hk16 : k = 16 := by omega
   have hR' : Row wr (w.heap.size + 1 + 1) (numV (wrow L 16)) 213 := by rw [← hk16]; exact hR
   have hbk : decide ((k : Int) < 16) = false := by rw [hk16]; rfl
   clear hR hk16 hlt hk
   have hR := hR'
   clear hR'
   have HB := Lib.hid hB; have HR := Lib.hid hR; have HZ := Lib.hid hZ
   clear hB hR hZ
   go_wp2_with fail
   go_loopw [5] (fun i wr => ∃ k : Nat, 16 ≤ k ∧ k ≤ 64 ∧ i = .int .i64 k ∧ Row wr (w.heap.size + 1) (zrow 64) 213 ∧ Row wr (w.heap.size + 1 + 1) (numV (wrow L k)) 213 ∧ Below w.heap.size w wr) (fun i _ => 64 - (intOf i).toNat)
   case atStart => exact ⟨16, by omega, by omega, rfl, HZ.out, HR.out, hb⟩
   case round =>
    clear HB HR HZ hb
    obtain ⟨k, hk0, hk, rfl, hZ, hR, hb⟩ := hrel
    by_cases hlt : k < 64
    ·have hbk : decide ((k : Int) < 64) = true := by simpa using (show (k : Int) < 64 by omega)
     have hm := wlist_mem L hl8 k
     obtain ⟨x, hx⟩ : ∃ x, x = (wlist L k).getD (k - 15) 0 := ⟨_, rfl⟩
     obtain ⟨y, hy⟩ : ∃ y, y = (wlist L k).getD (k - 2) 0 := ⟨_, rfl⟩
     obtain ⟨p, hp⟩ : ∃ y, y = (wlist L k).getD (k - 16) 0 := ⟨_, rfl⟩
     obtain ⟨q, hq⟩ : ∃ y, y = (wlist L k).getD (k - 7) 0 := ⟨_, rfl⟩
     have lx : x < 4294967296 := by rw [hx]; exact getD_lt hm _
     have ly : y < 4294967296 := by rw [hy]; exact getD_lt hm _
     have lp : p < 4294967296 := by rw [hp]; exact getD_lt hm _
     have lq : q < 4294967296 := by rw [hq]; exact getD_lt hm _
     have cc : ∀ j, j < k → wr.cell? ⟨w.heap.size + 1 + 1, j, none⟩ = some (.int .u32 ((wlist L k).getD j 0 : Nat)) := fun j hj => by
      rw [hR.cell, numV_get _ _ (by rw [wrow_len _ _ hk]; omega), wrow_get _ _ _ hj]
     have c15 := cc (k - 15) (by omega)
     have c2 := cc (k - 2) (by omega)
     have c16 := cc (k - 16) (by omega)
     have c7 := cc (k - 7) (by omega)
     rw [← hx] at c15; rw [← hy] at c2; rw [← hp] at c16; rw [← hq] at c7
     have cf := hR.free k
     have cr : ∃ v, wr.cell? ⟨w.heap.size + 1 + 1, k, none⟩ = some v := by
      rw [hR.cell, numV_get _ _ (by rw [wrow_len _ _ hk]; omega)]
      exact ⟨_, rfl⟩
     obtain ⟨v, cr⟩ := cr
     clear cc hm
     have HV := Lib.hid (nxt_on L (wlist L k) k hk0)
     have HX := Lib.hid hx; have HY := Lib.hid hy; have HP := Lib.hid hp; have HQ := Lib.hid hq
     clear hx hy hp hq
     have t1 : ((k : Int) - 15).toNat = k - 15 := by omega
     have t2 : ((k : Int) - 2).toNat = k - 2 := by omega
     have t3 : ((k : Int) - 16).toNat = k - 16 := by omega
     have t4 : ((k : Int) - 7).toNat = k - 7 := by omega
     have s1 : IntKind.i64.wrap ((k : Int) - 15) = (k : Int) - 15 := IntWalk.i64_in _ (by omega)
     have s2 : IntKind.i64.wrap ((k : Int) - 2) = (k : Int) - 2 := IntWalk.i64_in _ (by omega)
     have s3 : IntKind.i64.wrap ((k : Int) - 16) = (k : Int) - 16 := IntWalk.i64_in _ (by omega)
     have s4 : IntKind.i64.wrap ((k : Int) - 7) = (k : Int) - 7 := IntWalk.i64_in _ (by omega)
     have b1 : (0 : Int) ≤ (k : Int) - 15 ∧ (k : Int) - 15 < 64 := by omega
     have b2 : (0 : Int) ≤ (k : Int) - 2 ∧ (k : Int) - 2 < 64 := by omega
     have b3 : (0 : Int) ≤ (k : Int) - 16 ∧ (k : Int) - 16 < 64 := by omega
     have b4 : (0 : Int) ≤ (k : Int) - 7 ∧ (k : Int) - 7 < 64 := by omega
     have b6 : (16 : Int) ≤ (k : Int) := by omega
     have b7 : (7 : Int) ≤ (k : Int) := by omega
     have b8 : (k : Int) - 16 < 64 := by omega
     have b9 : (k : Int) - 7 < 64 := by omega
     have b10 : (0 : Int) ≤ (k : Int) - 16 := by omega
     have b11 : (0 : Int) ≤ (k : Int) - 7 := by omega
     have b5 : (0 : Int) ≤ (k : Int) ∧ (k : Int) < 64 := by omega
     have HR := Lib.hid hR; have HZ := Lib.hid hZ
     clear hR hZ
     have HL8 := Lib.hid hl8; clear hl8
     go_wp2_with (go_at_call 148; refine (rot_z _ _ (by assumption) (by decide) _).mono ?_; rintro e w1 ⟨rfl, rfl⟩)
     obtain ⟨W2, hW2⟩ : ∃ W2, W2 = wr := ⟨_, rfl⟩
     rw [← hW2]
     have d16 : W2.cell? ⟨w.heap.size + 1 + 1, k - 16, none⟩ = some (.int .u32 p) := by rw [hW2]; exact c16
     have d7 : W2.cell? ⟨w.heap.size + 1 + 1, k - 7, none⟩ = some (.int .u32 q) := by rw [hW2]; exact c7
     have df : W2.frozen? ⟨w.heap.size + 1 + 1, k, none⟩ = false := by rw [hW2]; exact cf
     have dr : W2.cell? ⟨w.heap.size + 1 + 1, k, none⟩ = some v := by rw [hW2]; exact cr
     have HR2 : Hid (Row W2 (w.heap.size + 1 + 1) (numV (wrow L k)) 213) := Lib.hid (by rw [hW2]; exact HR.out)
     have HZ2 : Hid (Row W2 (w.heap.size + 1) (zrow 64) 213) := Lib.hid (by rw [hW2]; exact HZ.out)
     have hb2 : Below w.heap.size w W2 := by rw [hW2]; exact hb
     clear hW2 c16 c7 cf cr HR HZ hb c15 c2 t1 t2 s1 s2 b1 b2
     go_still_tail 15, (by kernel_rfl)
     change wpList _ _ _ _ _ W2.drew
     clear t3 t4 s3 s4 b3 b4 d16 d7
     go_wp2
     go_roundw
     case rel =>
      refine ⟨k + 1, by omega, by omega, by go_num, ?_, ?_, ?_⟩
      ·exact (Row.drew HZ2.out).other _ _ (by show w.heap.size + 1 ≠ w.heap.size + 1 + 1; omega)
      ·have := (Row.drew HR2.out).set k (.int .u32 (nxt L (wlist L k) k : Nat))
       rw [numV_set, wrow_set L k (by omega), HV.out, ← HX.out, ← HY.out, ← HP.out, ← HQ.out] at this
       rw [sg0_int x lx, sg1_int y ly, ad4_int]
       exact this
      ·exact (hb2.drew).setCell (by show w.heap.size ≤ w.heap.size + 1 + 1; omega) _
     case measure => simp [intOf]; omega
    ·obtain rfl : k = 64 := by omega
     have hbk : decide (((64 : Nat) : Int) < 64) = false := rfl
     have HR := Lib.hid hR; have HZ := Lib.hid hZ
     clear hR hZ
     go_wp2_with (first
      | refine wpList_load_row rfl 213 _ rfl (w.heap.size + 1 + 1) rfl 213 (numV (wrow L 64)) (0, 0) _ HR.out Tryz.underlying213 rfl (by rw [numV_size, wrow_len _ _ hk]; exact size43) ?_
      | refine wpList_store_row rfl 213 _ _ rfl (w.heap.size + 1) (numV (wrow L 64)) rfl rfl 213 (zrow 64) HZ.out (by rw [numV_size, wrow_len _ _ hk]; exact size43) (by rw [numV_size, zrow_size, wrow_len _ _ hk]) (numV_one _) ?_)
     refine bodyPost_ret (v := .agg (numV (wrow L 64))) (results_cell_row rfl _ _ (w.heap.size + 1) 213 (numV (wrow L 64)) (0, 0) _ rfl (setRow_heap _ _ _ _ _ _ HZ.out) Tryz.underlying213 rfl (by rw [numV_size, wrow_len _ _ hk]; exact size43)) rfl ⟨by rw [wrow_full], below_setRow hb (by omega) _⟩
end Go.Proofs.YtokknppjeckppaaGreatDoor
set_option linter.unusedVariables false
set_option pp.maxSteps 200000
namespace Go.Proofs.YtokknppjeckppaaGreatDoor
open Go.RowKit
theorem rot_q (x : Nat) (z : Int) (hx : x < 4294967296) (h : 1 ≤ z ∧ z ≤ 31) (w : World) : Calls Tryz.prog 148 #[.int .u32 x, .int .u64 z] w fun e w' => e = .returned (.int .u32 (rotr x z.toNat)) ∧ w' = w :=
 (rot_z x z hx h w).mono fun _ _ ⟨he, hw⟩ => ⟨he, hw.symm⟩
theorem ret_valH {k : IntKind} {a b : Int} (h : a = b) : Value.int k a = .int k b := by rw [h]
theorem bs1_int (x : Nat) (h : x < 4294967296) : bits .xor .u32 (bits .xor .u32 (rotr x 6 : Nat) (rotr x 11 : Nat)) (rotr x 25 : Nat) = (bs1 x : Nat) := xor3_int _ _ _ (rotr_lt _ h) (rotr_lt _ h) (rotr_lt _ h)
theorem bs0_int (x : Nat) (h : x < 4294967296) : bits .xor .u32 (bits .xor .u32 (rotr x 2 : Nat) (rotr x 13 : Nat)) (rotr x 22 : Nat) = (bs0 x : Nat) := xor3_int _ _ _ (rotr_lt _ h) (rotr_lt _ h) (rotr_lt _ h)
theorem mj_int (a b c : Nat) (ha : a < 4294967296) (hb : b < 4294967296) (hc : c < 4294967296) :
  bits .xor .u32 (bits .xor .u32 (bits .and .u32 (a : Int) (b : Int)) (bits .and .u32 (a : Int) (c : Int))) (bits .and .u32 (b : Int) (c : Int)) = (mj a b c : Nat) := by
 rw [u32_and_nat _ _ ha hb, u32_and_nat _ _ ha hc, u32_and_nat _ _ hb hc, xor3_int _ _ _ (and_lt' ha) (and_lt' ha) (and_lt' hb)]; rfl
def tt (s : St) (k w : Nat) : Nat := ad (ad (ad (ad s.h (bs1 s.e)) (chs s.e s.f s.g)) k) w
end Go.Proofs.YtokknppjeckppaaGreatDoor
set_option linter.unusedVariables false
set_option pp.maxSteps 200000
namespace Go.Proofs.YtokknppjeckppaaGreatDoor
open Go.RowKit
set_option maxRecDepth 100000 in
set_option maxHeartbeats 1000000 in
def mixL (s f : St) (k : Nat) : List Nat := (List.range 8).map fun j => if j < k then ad (s.list.getD j 0) (f.list.getD j 0) else s.list.getD j 0
theorem mixL_zero (s f : St) : mixL s f 0 = s.list := rfl
theorem mixL_full (s f : St) : mixL s f 8 = (s.add f).list := rfl
theorem mixL_len (s f : St) (k : Nat) : (mixL s f k).length = 8 := by simp [mixL]
theorem mixL_get (s f : St) (k : Nat) (h : k < 8) : (mixL s f k).getD k 0 = s.list.getD k 0 := by
 simp [mixL, h]
theorem mixL_set (s f : St) (k : Nat) (h : k < 8) : (mixL s f k).set k (ad (s.list.getD k 0) (f.list.getD k 0)) = mixL s f (k + 1) := by
 match k, h with
 | 0, _ | 1, _ | 2, _ | 3, _ | 4, _ | 5, _ | 6, _ | 7, _ => rfl
 | n + 8, h => exact absurd h (by omega)
end Go.Proofs.YtokknppjeckppaaGreatDoor
set_option linter.unusedVariables false
set_option pp.maxSteps 200000
namespace Go.Proofs.YtokknppjeckppaaGreatDoor
open Go.RowKit
set_option maxRecDepth 100000 in
set_option maxHeartbeats 1000000 in
theorem chsr_int (e f g : Nat) (he : e < 4294967296) (hf : f < 4294967296) (hg : g < 4294967296) :
  bits .xor .u32 (bits .and .u32 (e : Int) (f : Int)) (bits .and .u32 (4294967295 - (e : Int)) (g : Int)) = (chs e f g : Nat) := by
 rw [show 4294967295 - (e : Int) = ((4294967295 - e : Nat) : Int) by omega, u32_and_nat _ _ he hf, u32_and_nat _ _ (by omega) hg, u32_xor_nat _ _ (and_lt' he) (and_lt' (by omega))]; rfl
def set8 (W : World) (D : Nat) (v0 v1 v2 v3 v4 v5 v6 v7 : Nat) : World :=
 (((((((W.setCell ⟨D, 7, none⟩ (.int .u32 v7)).setCell ⟨D, 6, none⟩ (.int .u32 v6)).setCell ⟨D, 5, none⟩ (.int .u32 v5)).setCell ⟨D, 4, none⟩ (.int .u32 v4)).setCell ⟨D, 3, none⟩ (.int .u32 v3)).setCell ⟨D, 2, none⟩ (.int .u32 v2)).setCell ⟨D, 1, none⟩ (.int .u32 v1)).setCell ⟨D, 0, none⟩ (.int .u32 v0)
theorem set8_row {W : World} {D : Nat} {r : St} {T : TypeId} (q : Row W D (numV r.list) T) (v0 v1 v2 v3 v4 v5 v6 v7 : Nat) : Row (set8 W D v0 v1 v2 v3 v4 v5 v6 v7) D (numV (St.list ⟨v0, v1, v2, v3, v4, v5, v6, v7⟩)) T := by
 have h := (((((((q.set 7 (.int .u32 v7)).set 6 (.int .u32 v6)).set 5 (.int .u32 v5)).set 4 (.int .u32 v4)).set 3 (.int .u32 v3)).set 2 (.int .u32 v2)).set 1 (.int .u32 v1)).set 0 (.int .u32 v0)
 rw [numV_set, numV_set, numV_set, numV_set, numV_set, numV_set, numV_set, numV_set] at h
 exact h
theorem set8_other {W : World} {B D : Nat} {xs : Array Value} {T : TypeId} (q : Row W B xs T) (hne : B ≠ D) (v0 v1 v2 v3 v4 v5 v6 v7 : Nat) : Row (set8 W D v0 v1 v2 v3 v4 v5 v6 v7) B xs T :=
 (((((((q.other _ _ hne).other _ _ hne).other _ _ hne).other _ _ hne).other _ _ hne).other _ _ hne).other _ _ hne).other _ _ hne
theorem set8_below {W : World} {b D : Nat} {w : World} (h : Below b w W) (hD : b ≤ D) (v0 v1 v2 v3 v4 v5 v6 v7 : Nat) : Below b w (set8 W D v0 v1 v2 v3 v4 v5 v6 v7) :=
 (((((((h.setCell hD _).setCell hD _).setCell hD _).setCell hD _).setCell hD _).setCell hD _).setCell hD _).setCell hD _
theorem row8 {W : World} {D : Nat} {a b c d e f g h : Nat} {T : TypeId} (q : Row W D (numV (St.list ⟨a, b, c, d, e, f, g, h⟩)) T) :
  (W.cell? ⟨D, 0, none⟩ = some (.int .u32 a) ∧ W.cell? ⟨D, 1, none⟩ = some (.int .u32 b) ∧ W.cell? ⟨D, 2, none⟩ = some (.int .u32 c) ∧ W.cell? ⟨D, 3, none⟩ = some (.int .u32 d) ∧
   W.cell? ⟨D, 4, none⟩ = some (.int .u32 e) ∧ W.cell? ⟨D, 5, none⟩ = some (.int .u32 f) ∧ W.cell? ⟨D, 6, none⟩ = some (.int .u32 g) ∧ W.cell? ⟨D, 7, none⟩ = some (.int .u32 h)) ∧
  (W.frozen? ⟨D, 0, none⟩ = false ∧ W.frozen? ⟨D, 1, none⟩ = false ∧ W.frozen? ⟨D, 2, none⟩ = false ∧ W.frozen? ⟨D, 3, none⟩ = false ∧ W.frozen? ⟨D, 4, none⟩ = false ∧ W.frozen? ⟨D, 5, none⟩ = false ∧ W.frozen? ⟨D, 6, none⟩ = false ∧ W.frozen? ⟨D, 7, none⟩ = false) := by
 refine ⟨⟨?_, ?_, ?_, ?_, ?_, ?_, ?_, ?_⟩, q.free 0, q.free 1, q.free 2, q.free 3, q.free 4, q.free 5, q.free 6, q.free 7⟩ <;> (rw [q.cell]; rfl)
set_option maxRecDepth 100000 in
set_option maxHeartbeats 4000000 in
theorem refBlock_any (l : List UInt8) (hl : l.length = 64) (s : St) (hs : s.ok) (w : World) : Calls Tryz.prog 125 #[.agg (numV s.list), .agg (bytV l)] w fun e w' => e = .returned (.agg (numV (blkS s (fun i => (l.getD i 0).toNat)).list)) ∧ Below w.heap.size w w' := by
 obtain ⟨L, hL⟩ : ∃ L : Nat → Nat, L = fun i => (l.getD i 0).toNat := ⟨_, rfl⟩
 have hl8 : ∀ i, L i < 256 := fun i => by rw [hL]; exact UInt8.toNat_lt _
 have CS := Lib.hid (fun w => refWords_any l hl w)
 rw [← hL] at CS ⊢
 have HF : Hid (blkS s L = s.add (rounds L s 64)) := Lib.hid rfl
 have hw64 := wlist_len L 64
 have hV8 : (numV s.list).size = 8 := by rw [numV_size]; rfl
 have hX8 : (bytV l).size = 64 := by rw [bytV_size, hl]
 obtain ⟨X, hX⟩ : ∃ X, X = bytV l := ⟨_, rfl⟩
 obtain ⟨Y, hY⟩ : ∃ Y, Y = numV (wlist L 64) := ⟨_, rfl⟩
 have hY8 : Y.size = 64 := by rw [hY, numV_size, hw64]
 rw [← hX] at CS hX8 ⊢
 rw [← hY] at CS
 obtain ⟨V, hV⟩ : ∃ V, V = numV s.list := ⟨_, rfl⟩
 rw [← hV] at hV8 ⊢
 have HV := Lib.hid hV; have HX := Lib.hid hX; have HV8 := Lib.hid hV8; have HX8 := Lib.hid hX8; have HY := Lib.hid hY; have HY8 := Lib.hid hY8; have HL8 := Lib.hid hl8
 clear hL hV hX hV8 hX8 hY hY8 hw64 hl8
 obtain ⟨q1, q2, q3, qb, qz⟩ := alloc3 w V X (zrow 8) 184 186 184
 have Q1 := Lib.hid q1; have Q2 := Lib.hid q2; have Q3 := Lib.hid q3; have QZ := Lib.hid qz
 clear q1 q2 q3 qz
 go_enter Tryz.func125, Tryz.ntmps125
 go_wp2_with (first
  | refine wpList_alloc_zero rfl _ rfl _ zero24 ?_
  | refine wpList_load_row rfl 186 _ rfl (w.heap.size + 1) rfl 186 X (0, 0) _ Q2.out Tryz.underlying186 rfl (by rw [HX8.out]; kernel_rfl) ?_)
 refine (CS.out _).mono ?_
 rintro e w1 ⟨rfl, hb1⟩
 have hz1 : w.heap.size + 3 ≤ w1.heap.size := by have := hb1.size; rw [QZ.out] at this; exact this
 have r1 := Q1.out.step hb1; have r3 := Q3.out.step hb1
 have hb1' := below_step qb (hb1.mono (by simp))
 have R1 := Lib.hid r1; have R3 := Lib.hid r3
 clear Q1 Q2 Q3 QZ qb hb1 r1 r3
 go_wp2_with (first
  | refine wpList_alloc_zero rfl _ rfl _ zero43 ?_
  | refine wpList_store_row rfl 213 _ _ rfl w1.heap.size Y rfl rfl 213 (zrow 64) (heap_alloc_new _ _) (by rw [HY8.out]; exact size43) (by rw [HY8.out, zrow_size]) (by rw [HY.out]; exact numV_one _) ?_)
 refine (refConstants_any _).mono ?_
 rintro e w2 ⟨rfl, hb2⟩
 obtain ⟨A, hA⟩ : ∃ A, A = w1.heap.size := ⟨_, rfl⟩
 have ra : Row w2 A Y 213 := by rw [hA]; exact (Row.setRow (Row.made _ _ _) _).step hb2
 have r1 : Row w2 w.heap.size V 184 := (Row.setRow_other (R1.out.alloc _) _ _ (by omega)).step hb2
 have r3 : Row w2 (w.heap.size + 1 + 1) (zrow 8) 184 := (Row.setRow_other (R3.out.alloc _) _ _ (by omega)).step hb2
 have hb2' : Below w.heap.size w w2 := below_step (below_setRow (hb1'.alloc (by omega) _) (by omega) _) hb2
 have hz2 : A < w2.heap.size := ra.lt
 rw [← hA] at hz1 ⊢
 have qc : Row ((w2.alloc (.cells (zrow 64) 213)).setRow w2.heap.size (numV ktab)) w2.heap.size (numV ktab) 213 := Row.setRow (Row.made _ _ _) _
 have qa : Row ((w2.alloc (.cells (zrow 64) 213)).setRow w2.heap.size (numV ktab)) A Y 213 := Row.setRow_other (ra.alloc _) _ _ (by omega)
 have q1 : Row ((w2.alloc (.cells (zrow 64) 213)).setRow w2.heap.size (numV ktab)) w.heap.size V 184 := Row.setRow_other (r1.alloc _) _ _ (by omega)
 have q3 : Row ((w2.alloc (.cells (zrow 64) 213)).setRow w2.heap.size (numV ktab)) (w.heap.size + 1 + 1) (zrow 8) 184 := Row.setRow_other (r3.alloc _) _ _ (by omega)
 have qb : Below w.heap.size w ((w2.alloc (.cells (zrow 64) 213)).setRow w2.heap.size (numV ktab)) := below_setRow (hb2'.alloc (by omega) _) (by omega) _
 clear R1 R3 hb1' hb2 ra r1 r3 hb2'
 obtain ⟨C, hC⟩ : ∃ C, C = w2.heap.size := ⟨_, rfl⟩
 obtain ⟨W3, hW3⟩ : ∃ W3, W3 = ((w2.alloc (.cells (zrow 64) 213)).setRow w2.heap.size (numV ktab)) := ⟨_, rfl⟩
 have hz3 : W3.heap.size = C + 1 := by rw [hW3, hC]; simp
 rw [← hW3] at qc qa q1 q3 qb
 rw [← hC] at qc hz2
 have QC := Lib.hid qc; have QA := Lib.hid qa; have Q1 := Lib.hid q1; have Q3 := Lib.hid q3; have HW3 := Lib.hid hW3; have HC := Lib.hid hC; have HZ3 := Lib.hid hz3; have HA := Lib.hid hA
 clear qc qa q1 q3 hC hW3 hz3 hA
 go_wp2_with (first
  | refine wpList_alloc_zero rfl _ rfl _ zero43 ?_
  | (refine wpList_store_row rfl 213 _ _ rfl w2.heap.size (numV ktab) rfl rfl 213 (zrow 64) (heap_alloc_new _ _) (by rw [numV_size]; exact size43) (by rw [numV_size]; kernel_rfl) (numV_one _) ?_; rw [← HW3.out, ← HC.out])
  | refine wpList_load_row rfl 184 _ rfl w.heap.size rfl 184 V (0, 0) _ Q1.out Tryz.underlying184 rfl (by rw [HV8.out]; exact size24) ?_
  | refine wpList_alloc_zero rfl 184 rfl _ zero24 ?_
  | refine wpList_store_row rfl 184 _ _ rfl W3.heap.size V rfl rfl 184 (zrow 8) (heap_alloc_new _ _) (by rw [HV8.out]; exact size24) (by rw [HV8.out, zrow_size]) (by rw [HV.out]; exact numV_one _) ?_)
 obtain ⟨D, hD⟩ : ∃ D, D = W3.heap.size := ⟨_, rfl⟩
 have hz3 : C < D := by rw [hD, HZ3.out]; omega
 have qd : Row ((W3.alloc (.cells (zrow 8) 184)).setRow W3.heap.size V) D (numV (rounds L s 0).list) 184 := by
  rw [hD, show rounds L s 0 = s from rfl, ← HV.out]; exact Row.setRow (Row.made _ _ _) _
 have qc : Row ((W3.alloc (.cells (zrow 8) 184)).setRow W3.heap.size V) C (numV ktab) 213 := Row.setRow_other (QC.out.alloc _) _ _ (by omega)
 have qa : Row ((W3.alloc (.cells (zrow 8) 184)).setRow W3.heap.size V) A Y 213 := Row.setRow_other (QA.out.alloc _) _ _ (by omega)
 have q1 : Row ((W3.alloc (.cells (zrow 8) 184)).setRow W3.heap.size V) w.heap.size V 184 := Row.setRow_other (Q1.out.alloc _) _ _ (by omega)
 have q3 : Row ((W3.alloc (.cells (zrow 8) 184)).setRow W3.heap.size V) (w.heap.size + 1 + 1) (zrow 8) 184 := Row.setRow_other (Q3.out.alloc _) _ _ (by omega)
 have qb4 : Below w.heap.size w ((W3.alloc (.cells (zrow 8) 184)).setRow W3.heap.size V) := below_setRow (qb.alloc qb.size _) qb.size _
 rw [← hD] at qd qc qa q1 q3 qb4 ⊢
 clear QC QA Q1 Q3 HZ3 HW3 qb hD
 have QD := Lib.hid qd; have QC := Lib.hid qc; have QA := Lib.hid qa; have Q1 := Lib.hid q1; have Q3 := Lib.hid q3
 clear qd qc qa q1 q3
 go_loopw [8] (fun i wr => ∃ k : Nat, k ≤ 64 ∧ i = .int .i64 k ∧ Row wr D (numV (rounds L s k).list) 184 ∧ Row wr C (numV ktab) 213 ∧ Row wr A Y 213 ∧ Row wr w.heap.size V 184 ∧ Row wr (w.heap.size + 1 + 1) (zrow 8) 184 ∧ Below w.heap.size w wr) (fun i _ => 64 - (intOf i).toNat)
 case atStart => exact ⟨0, by omega, rfl, QD.out, QC.out, QA.out, Q1.out, Q3.out, qb4⟩
 case round =>
  clear QD QC QA Q1 Q3 qb4
  obtain ⟨k, hk, rfl, qd, qc, qa, q1, q3, hb⟩ := hrel
  by_cases hlt : k < 64
  ·have hbk : decide ((k : Int) < 64) = true := by simpa using (show (k : Int) < 64 by omega)
   obtain ⟨la, lb, lc, ld, le, lf, lg, lh⟩ := rounds_ok L hs k
   have lw := wd_lt L HL8.out k
   have lk := kt_lt k
   have HN := Lib.hid (show rounds L s (k + 1) = rnd (rounds L s k) (kt k) (wd L k) from rfl)
   obtain ⟨r, hr⟩ : ∃ r, r = rounds L s k := ⟨_, rfl⟩
   rw [← hr] at la lb lc ld le lf lg lh HN qd
   obtain ⟨a, b, c, d, e, f, g, h⟩ := r
   dsimp only at la lb lc ld le lf lg lh
   have ca : wr.cell? ⟨A, k, none⟩ = some (.int .u32 (wd L k : Nat)) := by rw [qa.cell, HY.out, numV_get _ _ (by rw [wlist_len]; exact hlt)]; rfl
   have ct : wr.cell? ⟨C, k, none⟩ = some (.int .u32 (kt k : Nat)) := by rw [qc.cell, numV_get _ _ (by rw [ktab_len]; exact hlt)]; rfl
   obtain ⟨x, hxe⟩ : ∃ x, x = wd L k := ⟨_, rfl⟩
   obtain ⟨y, hye⟩ : ∃ x, x = kt k := ⟨_, rfl⟩
   rw [← hxe] at lw HN ca
   rw [← hye] at lk HN ct
   have b5 : (0 : Int) ≤ (k : Int) ∧ (k : Int) < 64 := by omega
   obtain ⟨⟨d0, d1, d2, d3, d4, d5, d6, d7⟩, f0, f1, f2, f3, f4, f5, f6, f7⟩ := row8 qd
   have QD := Lib.hid qd; have QC := Lib.hid qc; have QA := Lib.hid qa; have Q1 := Lib.hid q1; have Q3 := Lib.hid q3
   have HR := Lib.hid hr; have HXE := Lib.hid hxe; have HYE := Lib.hid hye
   clear qd qc qa q1 q3 hr hxe hye
   go_wp2_with fail
   go_quiet ((go_at_call 148; exact Calls.quiet_of_same (rot_q _ _ (by assumption) (by decide) _)))
   rw [bs1_int e le]
   obtain ⟨W5, hW5⟩ : ∃ W5, W5 = wr.drewN nq := ⟨_, rfl⟩
   rw [← hW5]
   have hb5 : Below w.heap.size w W5 := by rw [hW5]; exact below_drewN hb nq
   have qd := QD.out.drewN nq; have qc := QC.out.drewN nq; have qa := QA.out.drewN nq; have q1 := Q1.out.drewN nq; have q3 := Q3.out.drewN nq
   rw [← hW5] at qd qc qa q1 q3
   have ca' : W5.cell? ⟨A, k, none⟩ = some (.int .u32 x) := by rw [hW5]; exact ca
   have ct' : W5.cell? ⟨C, k, none⟩ = some (.int .u32 y) := by rw [hW5]; exact ct
   clear d0 d1 d2 d3 d4 d5 d6 d7 f0 f1 f2 f3 f4 f5 f6 f7 ca ct QD QC QA Q1 Q3 hb hW5
   have ca := ca'; have ct := ct'
   clear ca' ct'
   obtain ⟨⟨d0, d1, d2, d3, d4, d5, d6, d7⟩, f0, f1, f2, f3, f4, f5, f6, f7⟩ := row8 qd
   have QD := Lib.hid qd; have QC := Lib.hid qc; have QA := Lib.hid qa; have Q1 := Lib.hid q1; have Q3 := Lib.hid q3
   clear qd qc qa q1 q3
   go_wp2_with fail
   rw [chsr_int e f g le lf lg]
   go_quiet (fail)
   obtain ⟨W6, hW6⟩ : ∃ W6, W6 = W5.drewN nq := ⟨_, rfl⟩
   rw [← hW6]
   have hb6 : Below w.heap.size w W6 := by rw [hW6]; exact below_drewN hb5 nq
   have qd := QD.out.drewN nq; have qc := QC.out.drewN nq; have qa := QA.out.drewN nq; have q1 := Q1.out.drewN nq; have q3 := Q3.out.drewN nq
   rw [← hW6] at qd qc qa q1 q3
   have ca' : W6.cell? ⟨A, k, none⟩ = some (.int .u32 x) := by rw [hW6]; exact ca
   have ct' : W6.cell? ⟨C, k, none⟩ = some (.int .u32 y) := by rw [hW6]; exact ct
   clear d0 d1 d2 d3 d4 d5 d6 d7 f0 f1 f2 f3 f4 f5 f6 f7 ca ct QD QC QA Q1 Q3 hb5 hW6
   have ca := ca'; have ct := ct'
   clear ca' ct'
   obtain ⟨⟨d0, d1, d2, d3, d4, d5, d6, d7⟩, f0, f1, f2, f3, f4, f5, f6, f7⟩ := row8 qd
   have QD := Lib.hid qd; have QC := Lib.hid qc; have QA := Lib.hid qa; have Q1 := Lib.hid q1; have Q3 := Lib.hid q3
   clear qd qc qa q1 q3
   go_wp2_with fail
   go_quiet ((go_at_call 148; exact Calls.quiet_of_same (rot_q _ _ (by assumption) (by decide) _)))
   rw [bs0_int a la]
   obtain ⟨W7, hW7⟩ : ∃ W7, W7 = W6.drewN nq := ⟨_, rfl⟩
   rw [← hW7]
   have hb7 : Below w.heap.size w W7 := by rw [hW7]; exact below_drewN hb6 nq
   have qd := QD.out.drewN nq; have qc := QC.out.drewN nq; have qa := QA.out.drewN nq; have q1 := Q1.out.drewN nq; have q3 := Q3.out.drewN nq
   rw [← hW7] at qd qc qa q1 q3
   have ca' : W7.cell? ⟨A, k, none⟩ = some (.int .u32 x) := by rw [hW7]; exact ca
   have ct' : W7.cell? ⟨C, k, none⟩ = some (.int .u32 y) := by rw [hW7]; exact ct
   clear d0 d1 d2 d3 d4 d5 d6 d7 f0 f1 f2 f3 f4 f5 f6 f7 ca ct QD QC QA Q1 Q3 hb6 hW7
   have ca := ca'; have ct := ct'
   clear ca' ct'
   obtain ⟨⟨d0, d1, d2, d3, d4, d5, d6, d7⟩, f0, f1, f2, f3, f4, f5, f6, f7⟩ := row8 qd
   have QD := Lib.hid qd; have QC := Lib.hid qc; have QA := Lib.hid qa; have Q1 := Lib.hid q1; have Q3 := Lib.hid q3
   clear qd qc qa q1 q3
   clear ca ct b5
   go_wp2_with fail
   go_roundw
   case rel =>
    rw [mj_int a b c la lb lc]
    rw [show ((d : Int) + ((h : Int) + (bs1 e : Nat) + (chs e f g : Nat) + (y : Int) + (x : Int))) % 4294967296 = (ad d (tt ⟨a, b, c, d, e, f, g, h⟩ y x) : Nat) by
     show _ = ((ad d (ad (ad (ad (ad h (bs1 e)) (chs e f g)) y) x) : Nat) : Int); unfold ad; omega]
    rw [show ((h : Int) + (bs1 e : Nat) + (chs e f g : Nat) + (y : Int) + (x : Int) + (bs0 a : Nat) + (mj a b c : Nat)) % 4294967296 = (ad (tt ⟨a, b, c, d, e, f, g, h⟩ y x) (ad (bs0 a) (mj a b c)) : Nat) by
     show _ = ((ad (ad (ad (ad (ad h (bs1 e)) (chs e f g)) y) x) (ad (bs0 a) (mj a b c)) : Nat) : Int); unfold ad; omega]
    refine ⟨k + 1, by omega, by go_num, ?_, set8_other QC.out (by omega) _ _ _ _ _ _ _ _, set8_other QA.out (by omega) _ _ _ _ _ _ _ _, set8_other Q1.out (by omega) _ _ _ _ _ _ _ _, set8_other Q3.out (by omega) _ _ _ _ _ _ _ _, set8_below hb7 (by omega) _ _ _ _ _ _ _ _⟩
    rw [HN.out]
    exact set8_row QD.out _ _ _ _ _ _ _ _
   case measure => simp [intOf]; omega
  ·have hk64 : k = 64 := by omega
   have hbk : decide ((k : Int) < 64) = false := by rw [hk64]; rfl
   rw [hk64] at qd
   clear hk64 hk hlt
   obtain ⟨f, hf⟩ : ∃ f, f = rounds L s 64 := ⟨_, rfl⟩
   rw [← hf] at qd HF
   rw [HV.out, ← mixL_zero s f] at q1
   have Q1 := Lib.hid q1; have Q3 := Lib.hid q3; have QD := Lib.hid qd
   clear q1 q3 qd qa qc hf
   go_wp2_with fail
   go_loopw [14] (fun i wr => ∃ k : Nat, k ≤ 8 ∧ i = .int .i64 k ∧ Row wr w.heap.size (numV (mixL s f k)) 184 ∧ Row wr (w.heap.size + 1 + 1) (zrow 8) 184 ∧ Row wr D (numV f.list) 184 ∧ Below w.heap.size w wr) (fun i _ => 8 - (intOf i).toNat)
   case atStart => exact ⟨0, by omega, rfl, Q1.out, Q3.out, QD.out, hb⟩
   case round =>
    clear Q1 Q3 QD hb
    obtain ⟨k, hk, rfl, r1, r3, rd, hb⟩ := hrel
    by_cases hlt : k < 8
    ·have hbk : decide ((k : Int) < 8) = true := by simpa using (show (k : Int) < 8 by omega)
     obtain ⟨x, hx⟩ : ∃ x, x = s.list.getD k 0 := ⟨_, rfl⟩
     obtain ⟨y, hy⟩ : ∃ x, x = f.list.getD k 0 := ⟨_, rfl⟩
     have c1 : wr.cell? ⟨w.heap.size, k, none⟩ = some (.int .u32 x) := by rw [r1.cell, numV_get _ _ (by rw [mixL_len]; exact hlt), mixL_get _ _ _ hlt, hx]
     have c2 : wr.cell? ⟨D, k, none⟩ = some (.int .u32 y) := by rw [rd.cell, numV_get _ _ (by rw [list_len]; exact hlt), hy]
     have cf := r1.free k
     have HM := Lib.hid (mixL_set s f k hlt)
     rw [← hx, ← hy] at HM
     have b5 : (0 : Int) ≤ (k : Int) ∧ (k : Int) < 8 := by omega
     have R1 := Lib.hid r1; have R3 := Lib.hid r3; have RD := Lib.hid rd
     clear r1 r3 rd hx hy
     go_wp2_with fail
     go_still_tail 9, (by kernel_rfl)
     change wpList _ _ _ _ _ wr.drew
     clear c2
     go_wp2_with fail
     go_roundw
     case rel =>
      refine ⟨k + 1, by omega, by go_num, ?_, (Row.drew R3.out).other _ _ (by show w.heap.size + 1 + 1 ≠ w.heap.size; omega), (Row.drew RD.out).other _ _ (by show D ≠ w.heap.size; omega), (hb.drew).setCell (Nat.le_refl _) _⟩
      have := (Row.drew R1.out).set k (.int .u32 (ad x y : Nat))
      rw [numV_set, HM.out] at this
      rw [show ((x : Int) + (y : Int)) % 4294967296 = (ad x y : Nat) by unfold ad; omega]
      exact this
     case measure => simp [intOf]; omega
    ·obtain rfl : k = 8 := by omega
     have hbk : decide (((8 : Nat) : Int) < 8) = false := rfl
     rw [mixL_full] at r1
     have R1 := Lib.hid r1; have R3 := Lib.hid r3
     clear r1 r3 rd
     go_wp2_with (first
      | refine wpList_load_row rfl 184 _ rfl w.heap.size rfl 184 (numV (s.add f).list) (0, 0) _ R1.out Tryz.underlying184 rfl (by rw [numV_size]; exact size24) ?_
      | refine wpList_store_row rfl 184 _ _ rfl (w.heap.size + 1 + 1) (numV (s.add f).list) rfl rfl 184 (zrow 8) R3.out (by rw [numV_size]; exact size24) (by rw [numV_size, zrow_size]; rfl) (numV_one _) ?_)
     refine bodyPost_ret (v := .agg (numV (s.add f).list)) (results_cell_row rfl _ _ (w.heap.size + 1 + 1) 184 (numV (s.add f).list) (0, 0) _ rfl (setRow_heap _ _ _ _ _ _ R3.out) Tryz.underlying184 rfl (by rw [numV_size]; exact size24)) rfl ?_
     exact ⟨by rw [HF.out], below_setRow hb (by omega) _⟩
end Go.Proofs.YtokknppjeckppaaGreatDoor
set_option linter.unusedVariables false
set_option pp.maxSteps 200000
namespace Go.Proofs.YtokknppjeckppaaGreatDoor
open Go.RowKit
theorem size25 : (Tryz.prog.info? 186).map (·.size) = some 64 := by kernel_rfl
end Go.Proofs.YtokknppjeckppaaGreatDoor
set_option linter.unusedVariables false
namespace Go.Proofs.YtokknppjeckppaaGreatDoor
open Go.RowKit
def setSeg : Array Value → Nat → List Value → Array Value
 | xs, _, [] => xs
 | xs, o, v :: r => setSeg (xs.setIfInBounds o v) (o + 1) r
theorem Row.setCells {W : World} {B : Nat} {T : TypeId} : ∀ (vs : List Value) {xs : Array Value} {W : World} (h : Row W B xs T) (o : Nat), Row (W.setCells B o vs) B (setSeg xs o vs) T
 | [], _, _, h, _ => h
 | v :: r, _, _, h, o => Row.setCells (W := W) r (h.set o v) (o + 1)
theorem Row.range {W : World} {B : Nat} {T : TypeId} {A M C : List Value} (h : Row W B (A ++ M ++ C).toArray T) : W.rangeAt B A.length M := fun j v hv => by
 rw [h.cell]
 have hj : j < M.length := (List.getElem?_eq_some_iff.1 hv).1
 simp only [List.getElem?_toArray]
 rw [List.append_assoc, List.getElem?_append_right (by omega), List.getElem?_append_left (by omega), show A.length + j - A.length = j by omega, hv]
end Go.Proofs.YtokknppjeckppaaGreatDoor
set_option linter.unusedVariables false
set_option pp.maxSteps 200000
namespace Go.Proofs.YtokknppjeckppaaGreatDoor
open Go.RowKit
set_option maxRecDepth 100000 in
set_option maxHeartbeats 1000000 in
theorem be8_take (n k : Nat) (hk : k < 8) : (be8 n).take (k + 1) = (be8 n).take k ++ [UInt8.ofNat (n / 2 ^ (8 * (7 - k)))] := by
 rw [List.take_succ_eq_append_getElem (by rw [be8_len]; exact hk)]
 simp [be8]
end Go.Proofs.YtokknppjeckppaaGreatDoor
set_option linter.unusedVariables false
namespace Go.Proofs.YtokknppjeckppaaGreatDoor
open Go.RowKit
def Loose (fz : Nat × Nat) (n : Nat) : Prop := ∀ i, i < n → (decide (fz.1 ≤ i) && decide (i < fz.2)) = false
theorem loose_zero (n : Nat) : Loose (0, 0) n := fun i _ => by simp
theorem loose_edge (n : Nat) : Loose (n, n + 1) n := fun i h => by simp; omega
theorem frozen_loose {w : World} {g i : Nat} {cur : Array Value} {t : TypeId} {fz : Nat × Nat} (hg : w.heap[g]? = some (.cells cur t fz)) (hf : Loose fz cur.size) (hi : i < cur.size) : w.frozen? ⟨g, i, none⟩ = false := by
 have := hf i hi
 simp only [World.frozen?, hg]
 simpa using this
theorem run_storeCells_atE (P : Program) (g o : Nat) (t : TypeId) (fz : Nat × Nat) : ∀ (vs : List Value) (i : Nat) (cur : Array Value) (w : World), w.heap[g]? = some (.cells cur t fz) → Loose fz cur.size → o + i + vs.length ≤ cur.size → (∀ v ∈ vs, v.oneCell' = true) →
  (storeCells ⟨g, o, none⟩ vs i).run P w = .ok () (w.setRow g (cur.toList.take (o + i) ++ vs ++ cur.toList.drop (o + i + vs.length)).toArray)
 | [], i, cur, w, hg, _, _, _ => by
  simp only [storeCells, List.append_nil, List.length_nil, Nat.add_zero, List.take_append_drop, Array.toArray_toList]
  rw [setRow_self w g cur t fz hg]
  rfl
 | v :: rest, i, cur, w, hg, hf, hl, h1 => by
  have hi : o + i < cur.size := by simp at hl; omega
  have hadd : (⟨g, o, none⟩ : Addr).add i = ⟨g, o + i, none⟩ := by unfold Addr.add; split <;> simp_all
  have hcell : w.cell? ⟨g, o + i, none⟩ = some cur[o + i] := by simp [World.cell?, hg, hi]
  have hfro := frozen_loose hg hf hi
  have hst : (store ((⟨g, o, none⟩ : Addr).add i) v).run P w = .ok () (w.setRow g (cur.setIfInBounds (o + i) v)) := by
   rw [hadd, run_store P w _ v _ (h1 v (by simp)), hcell]
   simp [hfro, setCell_eq_setRow w g (o + i) cur t fz v hg]
  have ih := run_storeCells_atE P g o t fz rest (i + 1) (cur.setIfInBounds (o + i) v) (w.setRow g (cur.setIfInBounds (o + i) v)) (setRow_heap w g cur _ t _ hg) (by simpa using hf) (by simp at hl ⊢; omega) (fun x hx => h1 x (by simp [hx]))
  simp only [storeCells, Sem.run_bind, hst, Result.andThen_ok, ih, setRow_setRow]
  congr 3
  have e := list_seg_step cur.toList (o + i) v rest (by simp at hl ⊢; omega)
  simpa [Array.toList_setIfInBounds, Nat.add_assoc] using e
def ownsE (w : World) (base : Nat) (e : TypeId) (v : Value) (n : Nat) (xs : List Value) : Prop :=
 xs.length = n ∧ ∃ g cap cur fz, v = .slice (some ⟨g, 0, none⟩) n cap ∧ base ≤ g ∧ w.heap[g]? = some (.cells cur e fz) ∧ Loose fz cur.size ∧ n ≤ cap ∧ cap ≤ maxLen ∧ cur.size = cap ∧ cur.toList.take n = xs
theorem ownsE.cells {w : World} {base : Nat} {e : TypeId} {v : Value} {n : Nat} {xs : List Value} (h : ownsE w base e v n xs) : ∃ g cap, v = .slice (some ⟨g, 0, none⟩) n cap ∧ base ≤ g ∧ g < w.heap.size ∧ n ≤ cap ∧ ∀ j u, xs[j]? = some u → w.cell? ⟨g, j, none⟩ = some u := by
 obtain ⟨hl, g, cap, cur, fz, rfl, hb, hg, hf, hc, hm, hs, ht⟩ := h
 refine ⟨g, cap, rfl, hb, (Array.getElem?_eq_some_iff.1 hg).1, hc, fun j u hj => ?_⟩
 rw [cell_of_row w g j _ _ _ hg]
 have hjn : j < n := by rw [← hl]; exact (List.getElem?_eq_some_iff.1 hj).1
 rw [← ht, List.getElem?_take, if_pos hjn] at hj
 rw [← hj]; simp
theorem ownsE.step {w w' : World} {base : Nat} {e : TypeId} {v : Value} {n : Nat} {xs : List Value} (h : ownsE w base e v n xs) (hb : Below w.heap.size w w') : ownsE w' base e v n xs := by
 obtain ⟨hl, g, cap, cur, fz, rfl, h1, hg, h2⟩ := h
 exact ⟨hl, g, cap, cur, fz, rfl, h1, by rw [hb.block g (Array.getElem?_eq_some_iff.1 hg).1]; exact hg, h2⟩
theorem ownsE_conv (w : World) (e : TypeId) (s : ByteArray) (hs : s.size ≤ maxLen) (base : Nat) (hb : base ≤ w.heap.size) :
  ownsE (w.drew.alloc (.cells (bytesRow s (grownCap w s.size 0 e)) e ((bytesRow s (grownCap w s.size 0 e)).size, (bytesRow s (grownCap w s.size 0 e)).size + 1))) base e (.slice (some ⟨w.heap.size, 0, none⟩) s.size (grownCap w s.size 0 e)) s.size (s.data.toList.map fun b : UInt8 => Value.int .u8 (b.toNat : Int)) := by
 have hge := grownCap_ge w s.size 0 e
 refine ⟨by rw [List.length_map]; rfl, w.heap.size, _, _, _, rfl, hb, heap_alloc_new w.drew _, loose_edge _, hge, grownCap_le_maxLen w _ _ e hs, ?_, ?_⟩
 ·simp [bytesRow] at hge ⊢; omega
 ·have h1 : s.data.toList.length = s.size := by rw [Array.length_toList]; rfl
  simp [bytesRow]
theorem run_append_ownE {P : Program} (w : World) (base : Nat) (t ty e : TypeId) (i : TypeInfo) (z : Value) (ht : P.underlying t = some (.slice e)) (hi : P.info? e = some i) (hz : i.zero = some z)
  (hsize : i.size = 1) (hby : i.bytes = 1) (hzs : z.cells.size = 1)
  (v : Value) (n : Nat) (xs : List Value) (hown : ownsE w base e v n xs)
  (a : Addr) (m c : Nat) (news : List Value) (hl : news.length = m) (hnews : ∀ j u, news[j]? = some u → w.cell? (a.add j) = some u) (h1 : ∀ u ∈ news, u.oneCell' = true)
  (h63 : n + m ≤ 140737488355328) (hbase : base ≤ w.heap.size) :
  ∃ v' w', (Builtin.append_ #[t, t] ty #[v, .slice (some a) m c]).run P w = .ok v' w' ∧ ownsE w' base e v' (n + m) (xs ++ news) ∧ w.grownBy w' v.ownBlock := by
 obtain ⟨hxl, g, cap, cur, fz, rfl, hbg, hg, hf, hnc, hcm, hcs, htake⟩ := hown
 have hlen : (xs ++ news).length = n + m := by rw [List.length_append, hxl, hl]
 by_cases hroom : n + m ≤ cap
 ·have hfit : n + 0 + news.length ≤ cur.size := by rw [hl, hcs]; omega
  have hfc := run_firstCells_some (P := P) w i.size m a m c news (by rw [hsize, hl, Nat.mul_one]) hnews
  have hst := run_storeCells_atE P g n e fz news 0 cur w hg hf hfit h1
  simp only [Nat.add_zero] at hst
  have hr : (Builtin.append_ #[t, t] ty #[.slice (some ⟨g, 0, none⟩) n cap, .slice (some a) m c]).run P w = .ok (.slice (some ⟨g, 0, none⟩) (n + m) cap) (w.setRow g (cur.toList.take n ++ news ++ cur.toList.drop (n + news.length)).toArray) := by
   rw [hsize] at hfc
   simp [Builtin.append_, run_underlying ht, sizeOf, typeInfo, hi, hsize, Builtin.lenOf, hroom, hfc, Addr.add_lit, hst]
  have hsz : (cur.toList.take n ++ news ++ cur.toList.drop (n + news.length)).toArray.size = cur.size := by
   simp only [List.size_toArray, List.length_append, List.length_take, List.length_drop, Array.length_toList]
   omega
  refine ⟨_, _, hr, ⟨hlen, g, cap, _, fz, rfl, hbg, setRow_heap w g cur _ e _ hg, by rw [hsz]; exact hf, hroom, hcm, by rw [hsz]; exact hcs, ?_⟩, ⟨rfl, rfl, rfl, by simp, fun k _ hk => setRow_other w g k _ (fun e => hk (by simp [Value.ownBlock, e]))⟩⟩
  rw [htake, ← hlen]
  exact List.take_left
 ·have holds : ∀ j u, xs[j]? = some u → w.cell? ((⟨g, 0, none⟩ : Addr).add j) = some u := fun j u hj => by
   have e1 : (⟨g, 0, none⟩ : Addr).add j = ⟨g, j, none⟩ := by unfold Addr.add; split <;> simp_all
   rw [e1, cell_of_row w g j _ _ _ hg]
   have hjn : j < n := by rw [← hxl]; exact (List.getElem?_eq_some_iff.1 hj).1
   rw [← htake, List.getElem?_take, if_pos hjn] at hj
   rw [← hj]; simp
  have hr := run_append_grow (P := P) w t ty e i z ht hi hz ⟨g, 0, none⟩ n cap xs (by rw [hsize, Nat.mul_one]; exact hxl) holds a m c news (by rw [hsize, Nat.mul_one]; exact hl) hnews (by omega) (by omega) (growslice_fits (by omega) (by rw [hby]; omega))
  have hge := grownCap_ge w (n + m) cap e
  have hcm2 : grownCap w (n + m) cap e ≤ maxLen := grownCap_le_maxLen w (n + m) cap e (by unfold maxLen; omega)
  refine ⟨_, _, hr, ⟨hlen, w.heap.size, _, _, _, rfl, hbase, heap_alloc_new w.drew _, loose_zero _, hge, hcm2, ?_, ?_⟩, ⟨rfl, rfl, rfl, by simp, fun k hk _ => by show (w.heap.push _)[k]? = _; rw [Array.getElem?_push, if_neg (Nat.ne_of_lt hk)]⟩⟩
  ·simp only [Array.size_append, List.size_toArray, size_zeroCells, hzs, hxl, hl]
   omega
  ·simp only [Array.toList_append, List.append_assoc]
   rw [← List.append_assoc, ← hlen]
   exact List.take_left
theorem wpList_append_ownE {P : Program} {w : World} {ops : Array Oper} {rest : List Oper} {o : Oper} {a : Act} {Q : Exit → Act → World → Prop} (hgd : o.guard = none) (s x : Operand) (t : TypeId)
  (ho : o.op = .call { callee := .builtin .append, args := #[s, x], argTypes := #[t, t] })
  (base : Nat) (e : TypeId) (i : TypeInfo) (z : Value) (ht : P.underlying t = some (.slice e)) (hi : P.info? e = some i) (hz : i.zero = some z)
  (hsize : i.size = 1) (hby : i.bytes = 1) (hzs : z.cells.size = 1)
  (v : Value) (n : Nat) (xs : List Value) (hs : a.eval s = v) (hown : ownsE w base e v n xs)
  (ad : Addr) (m c : Nat) (news : List Value) (hx : a.eval x = .slice (some ad) m c) (hl : news.length = m) (hnews : ∀ j u, news[j]? = some u → w.cell? (ad.add j) = some u) (h1 : ∀ u ∈ news, u.oneCell' = true)
  (h63 : n + m ≤ 140737488355328) (hbase : base ≤ w.heap.size)
  (h : ∀ v' w', ownsE w' base e v' (n + m) (xs ++ news) → w.grownBy w' v.ownBlock → wpList P ops Q rest (a.put o.dst v') w') : wpList P ops Q (o :: rest) a w :=
 wpList_plain hgd fun _ hK => by
  obtain ⟨v', w', hr, h2, h3⟩ := run_append_ownE (P := P) w base t o.type e i z ht hi hz hsize hby hzs v n xs hown ad m c news hl hnews h1 h63 hbase
  unfold Oper.wp execOp
  simp only [ho, resolve, invoke, builtin, Sem.run_bind, Sem.run_pure, Result.andThen_ok, List.map_toArray, List.map_cons, List.map_nil, hs, hx, hr]
  exact hK _ _ (h v' w' h2 h3)
theorem ownsE.below {w w1 w' : World} {base : Nat} {e : TypeId} {v : Value} {n : Nat} {xs : List Value} (h : ownsE w base e v n xs) (hb : Below base w1 w) (hz : base ≤ w.heap.size) (hg : w.grownBy w' v.ownBlock) : Below base w1 w' := by
 obtain ⟨hl, g, cap, cur, fz, rfl, h1, _⟩ := h
 exact hb.grown hg hz (fun k hk => by simp [Value.ownBlock] at hk; omega)
end Go.Proofs.YtokknppjeckppaaGreatDoor
set_option linter.unusedVariables false
set_option pp.maxSteps 200000
namespace Go.Proofs.YtokknppjeckppaaGreatDoor
open Go.RowKit
set_option maxRecDepth 100000 in
set_option maxHeartbeats 1000000 in
def slLen : Value → Nat | .slice _ n _ => n | _ => 0
def padL (l : List UInt8) (j : Nat) : List UInt8 := l ++ 128 :: List.replicate j 0
theorem padL_len (l : List UInt8) (j : Nat) : (padL l j).length = l.length + 1 + j := by simp [padL]; omega
theorem padL_succ (l : List UInt8) (j : Nat) : padL l (j + 1) = padL l j ++ [0] := by simp [padL, List.replicate_succ']
def msgL (l : List UInt8) (k : Nat) : List UInt8 := padL l (zerosN_Shn l.length) ++ (be8 (l.length * 8)).take k
theorem msgL_zero (l : List UInt8) : msgL l 0 = padL l (zerosN_Shn l.length) := by simp [msgL]
theorem msgL_len (l : List UInt8) (k : Nat) (hk : k ≤ 8) : (msgL l k).length = l.length + 1 + zerosN_Shn l.length + k := by
 simp [msgL, padL_len, be8_len]; omega
theorem msgL_full (l : List UInt8) : msgL l 8 = l ++ closing l.length := by
 unfold msgL padL closing
 rw [List.take_of_length_le (by rw [be8_len]; exact Nat.le_refl _)]; simp
theorem msgL_succ (l : List UInt8) (k : Nat) (hk : k < 8) : msgL l (k + 1) = msgL l k ++ [UInt8.ofNat (l.length * 8 / 2 ^ (8 * (7 - k)))] := by
 unfold msgL
 rw [be8_take _ _ hk, List.append_assoc]
def xrowL (M : List UInt8) (r q : Nat) : List UInt8 := (M.drop (64 * r)).take q ++ List.replicate (64 - q) 0
theorem xrowL_zero (M : List UInt8) (r : Nat) : xrowL M r 0 = List.replicate 64 0 := by simp [xrowL]
theorem xrowL_len (M : List UInt8) (r q : Nat) (hq : q ≤ 64) (h : 64 * r + 64 ≤ M.length) : (xrowL M r q).length = 64 := by simp [xrowL]; omega
theorem xrowL_full (M : List UInt8) (r : Nat) : xrowL M r 64 = (M.drop (64 * r)).take 64 := by simp [xrowL]
theorem xrowL_set (M : List UInt8) (r q : Nat) (hq : q < 64) (h : 64 * r + 64 ≤ M.length) : (xrowL M r q).set q (M.getD (64 * r + q) 0) = xrowL M r (q + 1) := by
 have hl : ((M.drop (64 * r)).take q).length = q := by simp; omega
 unfold xrowL
 rw [List.set_append_right _ _ (by omega), hl, Nat.sub_self, show 64 - q = (64 - (q + 1)) + 1 by omega, List.replicate_succ, List.set_cons_zero]
 rw [List.take_succ_eq_append_getElem (i := q) (by simp; omega), List.append_assoc]
 congr 1
 simp only [List.getElem_drop, List.singleton_append]
 congr 1
 rw [List.getD_eq_getElem?_getD, List.getElem?_eq_getElem (by omega)]
 rfl
def stateN (M : List UInt8) (r : Nat) : St := (absorb first (M.take (64 * r))).1
theorem stateN_zero (M : List UInt8) : stateN M 0 = first := by unfold stateN; rw [Nat.mul_zero, List.take_zero, absorb_lt _ (by decide)]
theorem stateN_ok (M : List UInt8) (r : Nat) : (stateN M r).ok := absorb_ok _ first_ok
theorem stateN_succ (M : List UInt8) (r : Nat) (h : 64 * r + 64 ≤ M.length) : stateN M (r + 1) = blk (stateN M r) ((M.drop (64 * r)).take 64) := by
 have hr : (absorb first (M.take (64 * r))).2 = [] := by
  have := absorb_len (M.take (64 * r)) first
  rw [List.length_take, Nat.min_eq_left (by omega), Nat.mul_mod_right] at this
  exact List.length_eq_zero_iff.1 this
 unfold stateN
 rw [show 64 * (r + 1) = 64 * r + 64 by omega, List.take_add, ← absorb_append, hr, List.nil_append, absorb_one _ (by simp; omega)]
theorem stateN_full (M : List UInt8) (R : Nat) (h : M.length = 64 * R) : stateN M R = (absorb first M).1 := by
 unfold stateN; rw [← h, List.take_length]
theorem news4 (W : World) (v0 v1 v2 v3 : Value) : ∀ j u, [v0, v1, v2, v3][j]? = some u → (W.alloc (.cells #[v0, v1, v2, v3] 5)).drew.cell? ((⟨W.heap.size, 0, none⟩ : Addr).add j) = some u := by
 intro j u hj
 match j, hj with
 | 0, hj | 1, hj | 2, hj | 3, hj => simp at hj; subst hj; simp [Addr.add]
theorem one4 (k : IntKind) (a b c d : Int) : ∀ u ∈ [Value.int k a, Value.int k b, Value.int k c, Value.int k d], u.oneCell' = true := by
 intro u hu; simp at hu; rcases hu with rfl | rfl | rfl | rfl <;> rfl
theorem bytes_take (f : St) (k : Nat) (hk : k < 8) : f.bytes.take (4 * k + 4) = f.bytes.take (4 * k) ++ wbytes (f.list.getD k 0) := by
 match k, hk with
 | 0, _ | 1, _ | 2, _ | 3, _ | 4, _ | 5, _ | 6, _ | 7, _ => rfl
 | n + 8, h => exact absurd h (by omega)
theorem wbytes_cells (x : Nat) : [Value.int .u8 (IntKind.u8.wrap ((x : Int) / 16777216)), .int .u8 (IntKind.u8.wrap ((x : Int) / 65536)), .int .u8 (IntKind.u8.wrap ((x : Int) / 256)), .int .u8 (IntKind.u8.wrap (x : Int))] = Lib.byteCells (wbytes x) := by
 have e : ∀ n : Nat, IntKind.u8.wrap (n : Int) = ((UInt8.ofNat n).toNat : Int) := fun n => by rw [UInt8.toNat_ofNat', Int.natCast_emod]; rfl
 rw [show (x : Int) / 16777216 = ((x / 16777216 : Nat) : Int) by omega, show (x : Int) / 65536 = ((x / 65536 : Nat) : Int) by omega, show (x : Int) / 256 = ((x / 256 : Nat) : Int) by omega, e, e, e, e]
 rfl
theorem ownsRow_slice' {w : World} {base : Nat} {e : TypeId} {v : Value} {n : Nat} {xs : List Value} (h : w.ownsRow base e 1 v (n + 1) xs) : ∃ g cap, v = .slice (some ⟨g, 0, none⟩) (n + 1) cap := by
 rcases h.2 with ⟨_, h0⟩ | ⟨g, cap, _, rfl, _⟩
 ·omega
 ·exact ⟨g, cap, rfl⟩
theorem getD_ok {f : St} (hs : f.ok) (k : Nat) : f.list.getD k 0 < 4294967296 := by
 obtain ⟨h0, h1, h2, h3, h4, h5, h6, h7⟩ := hs
 exact getD_lt (l := f.list) (by intro y hy; simp only [St.list, List.mem_cons, List.not_mem_nil, or_false] at hy; rcases hy with rfl | rfl | rfl | rfl | rfl | rfl | rfl | rfl <;> assumption) k
theorem conv_str (w : World) (s : ByteArray) : (convert 9 111 (.string s)).run Tryz.prog w = .ok (.slice (some ⟨w.heap.size, 0, none⟩) s.size (grownCap w s.size 0 5))
   (w.drew.alloc (.cells (bytesRow s (grownCap w s.size 0 5)) 5 ((bytesRow s (grownCap w s.size 0 5)).size, (bytesRow s (grownCap w s.size 0 5)).size + 1))) :=
 run_bytes_of_string w 9 111 5 s Tryz.underlying9 Tryz.underlying111 Tryz.underlying5
theorem news_one (W : World) (v : Value) : ∀ j u, [v][j]? = some u → (W.alloc (.cells #[v] 5)).cell? ((⟨W.heap.size, 0, none⟩ : Addr).add j) = some u := by
 intro j u hj
 match j, hj with
 | 0, hj => simp at hj; subst hj; simp [Addr.add]
theorem one_cell (k : IntKind) (n : Int) : ∀ u ∈ [Value.int k n], u.oneCell' = true := by
 intro u hu; simp at hu; subst hu; rfl
theorem zero25 : (Tryz.prog.info? 186).bind (fun i => i.zero.map (·.cells)) = some (zbyt 64) := by kernel_rfl
set_option maxRecDepth 100000 in
set_option maxHeartbeats 4000000 in
theorem refSum_any (s : ByteArray) (hs : s.size ≤ 1000000) (w : World) :
  Calls Tryz.prog 105 #[.string s] w fun e w' => e = .returned (.string ⟨(shaSum s.data.toList).toArray⟩) ∧ Below w.heap.size w w' := by
 obtain ⟨i0, hi, hz0, hz1, hz2⟩ := info_parts infoByte
 obtain ⟨l, hl⟩ : ∃ l, l = s.data.toList := ⟨_, rfl⟩
 have hn : s.size = l.length := by rw [hl]; exact Lib.size_eq s
 obtain ⟨W1, hW1⟩ : ∃ W1, W1 = w.drew.alloc (.cells (bytesRow s (grownCap w s.size 0 5)) 5 ((bytesRow s (grownCap w s.size 0 5)).size, (bytesRow s (grownCap w s.size 0 5)).size + 1)) := ⟨_, rfl⟩
 have hcv := conv_str w s
 rw [← hW1] at hcv
 have ho1 : ownsE W1 w.heap.size 5 (.slice (some ⟨w.heap.size, 0, none⟩) s.size (grownCap w s.size 0 5)) s.size (Lib.byteCells l) := by
  rw [hW1, hl]; exact ownsE_conv w 5 s (by unfold maxLen; omega) w.heap.size (Nat.le_refl _)
 have hb1 : Below w.heap.size w W1 := by rw [hW1]; exact ((Below.refl _ w).drew).alloc (Nat.le_refl _) _
 have HO := Lib.hid ho1; have HCV := Lib.hid hcv; have HL := Lib.hid hl; have HN := Lib.hid hn
 clear hW1 ho1 hcv hl hn
 go_enter Tryz.func105, Tryz.ntmps105
 go_wp2_with (first
  | refine wpList_convert rfl _ _ _ rfl _ _ _ rfl HCV.out ?_
  | (at_builtin; refine wpList_append_ownE rfl (.tmp 17) (.tmp 18) 111 rfl w.heap.size 5 i0 (.int .u8 0) Tryz.underlying111 hi hz0 hz1 hz2 rfl _ _ _ rfl (ownsE.step HO.out ((Below.refl _ _).alloc (Nat.le_refl _) _)) ⟨W1.heap.size, 0, none⟩ 1 1 [.int .u8 128] rfl rfl (news_one W1 _) (one_cell _ _) (by omega) ?c5 ?_))
 case c5 => have := hb1.size; simp; omega
 intro v2 w2 ho2 hg2
 have hb2 : Below w.heap.size w w2 := ownsE.below (ownsE.step HO.out ((Below.refl _ _).alloc (Nat.le_refl _) _)) (hb1.alloc hb1.size _) (by have := hb1.size; simp; omega) hg2
 have ho2' : ownsE w2 w.heap.size 5 v2 (padL l 0).length (Lib.byteCells (padL l 0)) := by
  have e : Lib.byteCells l ++ [Value.int .u8 128] = Lib.byteCells (padL l 0) := by simp [Lib.byteCells, padL]
  rw [e, HN.out] at ho2
  rwa [padL_len]
 have HO2 := Lib.hid ho2'
 clear HO ho2 hg2 ho2' hb1 HCV
 go_wp2_with fail
 obtain ⟨z, hz⟩ : ∃ z, z = zerosN_Shn l.length := ⟨_, rfl⟩
 have hzl : z < 64 := by rw [hz]; unfold zerosN_Shn; omega
 have hzm : ∀ j, j ≤ z → ((l.length + 1 + j) % 64 = 56 ↔ j = z) := fun j hj => by rw [hz] at hj ⊢; unfold zerosN_Shn at hj ⊢; omega
 have HZ := Lib.hid hz; have HZM := Lib.hid hzm
 clear hz hzm
 go_loopw [4] (fun v wr => ∃ j : Nat, j ≤ z ∧ ownsE wr w.heap.size 5 v (padL l j).length (Lib.byteCells (padL l j)) ∧ Below w.heap.size w wr) (fun v _ => s.size + 1 + 64 - slLen v)
 case atStart => exact ⟨0, by omega, HO2.out, hb2⟩
 case round =>
  clear HO2 hb2
  obtain ⟨j, hj, ho, hb⟩ := hrel
  obtain ⟨g, cap, rfl, hbg, hgw, hnc, hcells⟩ := ho.cells
  have hlen := padL_len l j
  have hsl := HN.out
  obtain ⟨m, hme⟩ : ∃ m, m = (padL l j).length := ⟨_, rfl⟩
  have hmb : m ≤ 1000065 := by omega
  have hms : m ≤ s.size + 1 + 63 := by omega
  have hq : m % 64 = 56 ↔ j = z := by rw [hme, hlen]; exact HZM.out j hj
  have HME := Lib.hid hme; have HLEN := Lib.hid hlen; have HO := Lib.hid ho; have HC := Lib.hid hcells; have HQ := Lib.hid hq
  rw [← hme] at HO hnc ⊢
  clear hlen hsl hme ho hcells hq
  by_cases hjz : j = z
  ·have hm : ((m : Int) % 64 != 56) = false := by
    have e : (m : Int) % 64 = 56 := by have := HQ.out.2 hjz; omega
    rw [e]; rfl
   have ho : ownsE wr w.heap.size 5 (.slice (some ⟨g, 0, none⟩) m cap) (m + 0) (Lib.byteCells (msgL l 0)) := by
    have e := HO.out
    rw [hjz, HZ.out] at e
    rw [msgL_zero]; exact e
   have HOM := Lib.hid ho
   have HM : Hid (∀ k, k ≤ 8 → (msgL l k).length = m + k) := Lib.hid (fun k hk => by rw [msgL_len l k hk, HME.out, HLEN.out, hjz, HZ.out])
   clear ho HO HC HQ
   go_wp2_with fail
   go_loopw [5, 4] (fun i v wr => ∃ k : Nat, k ≤ 8 ∧ i = .int .i64 (7 - (k : Int)) ∧ ownsE wr w.heap.size 5 v (m + k) (Lib.byteCells (msgL l k)) ∧ Below w.heap.size w wr) (fun i _ _ => (intOf i + 1).toNat)
   case atStart => exact ⟨0, by omega, rfl, HOM.out, hb⟩
   case round =>
    clear HOM hb hbg hgw hnc
    obtain ⟨k, hk, rfl, ho, hb⟩ := hrel
    obtain ⟨g2, cap2, rfl, hbg, hgw, hnc, hcells⟩ := ho.cells
    have HO := Lib.hid ho; have HC := Lib.hid hcells
    clear ho hcells
    by_cases hlt : k < 8
    ·have hbk : decide ((0 : Int) ≤ 7 - (k : Int)) = true := by simpa using (show (0 : Int) ≤ 7 - (k : Int) by omega)
     obtain ⟨c, hc⟩ : ∃ c, c = 8 * (7 - k) := ⟨_, rfl⟩
     have e3 : (8 : Int) * (7 - (k : Int)) = (c : Int) := by omega
     have bc : c ≤ 56 := by omega
     have b0 : (0 : Int) ≤ 7 - (k : Int) := by omega
     have HT := Lib.hid (msgL_succ l k hlt)
     rw [← hc] at HT
     have HCC := Lib.hid hc
     clear hc
     go_wp2_with (at_builtin; refine wpList_append_ownE rfl (.tmp 31) (.tmp 38) 111 rfl w.heap.size 5 i0 (.int .u8 0) Tryz.underlying111 hi hz0 hz1 hz2 rfl _ _ _ rfl (ownsE.step HO.out ((Below.refl _ _).alloc (Nat.le_refl _) _)) ⟨wr.heap.size, 0, none⟩ 1 1 [_] rfl rfl (news_one wr _) (one_cell _ _) (by omega) ?c6 ?_)
     case c6 => have := hb.size; simp; omega
     intro v2 w2 ho2 hg2
     have hb2 : Below w.heap.size w w2 := ownsE.below (ownsE.step HO.out ((Below.refl _ _).alloc (Nat.le_refl _) _)) (hb.alloc hb.size _) (by have := hb.size; simp; omega) hg2
     have ho2' : ownsE w2 w.heap.size 5 v2 (m + (k + 1)) (Lib.byteCells (msgL l (k + 1))) := by
      have h8 : ((s.size : Int) * 8 / 2 ^ c % 256) = ((UInt8.ofNat (l.length * 8 / 2 ^ c)).toNat : Int) := by
       rw [UInt8.toNat_ofNat', Int.natCast_emod, Int.natCast_ediv, Int.natCast_mul, Int.natCast_pow, HN.out]; rfl
      have e : Lib.byteCells (msgL l k) ++ [Value.int .u8 ((s.size : Int) * 8 / 2 ^ c % 256)] = Lib.byteCells (msgL l (k + 1)) := by
       rw [HT.out, h8]; simp [Lib.byteCells]
      rw [e] at ho2
      exact ho2
     obtain ⟨g3, cap3, rfl, _, _, _, _⟩ := ho2'.cells
     have HO2 := Lib.hid ho2'
     clear ho2 ho2' hg2
     go_wp2_with fail
     refine ⟨⟨k + 1, by omega, ?_, HO2.out, hb2⟩, ?_⟩
     ·exact ret_valH (by omega)
     ·simp only [intOf]; omega
    ·have hk8 : k = 8 := by omega
     have hbk : decide ((0 : Int) ≤ 7 - (k : Int)) = false := by rw [hk8]; rfl
     have hbk2 : ¬ (0 : Int) ≤ 7 - (k : Int) := by omega
     have hbk3 : ¬ (k : Int) ≤ 7 := by omega
     have ho : ownsE wr w.heap.size 5 (.slice (some ⟨g2, 0, none⟩) (m + k) cap2) (m + k) (Lib.byteCells (l ++ closing l.length)) := by
      have e := HO.out
      rw [hk8, msgL_full, ← hk8] at e
      exact e
     have hM := HM.out 8 (Nat.le_refl _)
     rw [msgL_full, ← hk8] at hM
     obtain ⟨N, hNe⟩ : ∃ N, N = m + k := ⟨_, rfl⟩
     rw [← hNe] at ho hM hnc ⊢
     obtain ⟨M, hMe⟩ : ∃ M, M = l ++ closing l.length := ⟨_, rfl⟩
     rw [← hMe] at ho hM
     have hN64 : N % 64 = 0 := by rw [← hM, hMe]; exact closed_len l
     obtain ⟨R, hR⟩ : ∃ R, N = 64 * R := ⟨N / 64, by omega⟩
     have hNb : N ≤ 1000073 := by omega
     have hcells := ho.cells
     obtain ⟨_, _, he, _, _, _, hcells⟩ := hcells
     cases he
     have HCE := Lib.hid hcells; have HMe := Lib.hid hMe; have HMl := Lib.hid hM; have HNe := Lib.hid hNe
     have HR := Lib.hid hR
     clear hk8 hk hlt HO HC hcells hMe hM hNe ho hN64 hR
     go_wp2_with fail
     refine (refFirst_any _).mono ?_
     rintro e w3 ⟨rfl, hb3⟩
     have hz3 := hb3.size
     have hb4 : Below w.heap.size w w3 := hb.trans (hb3.mono hb.size)
     have hc3 : ∀ q, q < N → w3.cell? ⟨g2, q, none⟩ = some (.int .u8 ((M.getD q 0).toNat : Nat)) := fun q hq => by
      rw [hb3.cell (p := ⟨g2, q, none⟩) hgw]
      refine HCE.out q _ ?_
      unfold Lib.byteCells
      rw [List.getElem?_map, List.getD_eq_getElem?_getD, List.getElem?_eq_getElem (by rw [HMl.out]; exact hq)]; rfl
     have HC3 := Lib.hid hc3
     have q6 : Row ((w3.alloc (.cells (zrow 8) 184)).setRow w3.heap.size (numV first.list)) w3.heap.size (numV (stateN M 0).list) 184 := by
      rw [stateN_zero]; exact Row.setRow (Row.made _ _ _) _
     have hb5 : Below w3.heap.size w3 ((w3.alloc (.cells (zrow 8) 184)).setRow w3.heap.size (numV first.list)) := below_setRow ((Below.refl _ _).alloc (Nat.le_refl _) _) (Nat.le_refl _) _
     have Q6 := Lib.hid q6
     clear hc3 q6 HCE hb3
     go_wp2_with (first
      | refine wpList_alloc_zero rfl 184 rfl _ zero24 ?_
      | refine wpList_store_row rfl 184 _ _ rfl w3.heap.size (numV first.list) rfl rfl 184 (zrow 8) (heap_alloc_new _ _) (by rw [numV_size]; exact size24) (by rw [numV_size, zrow_size]; rfl) (numV_one _) ?_)
     obtain ⟨H, hH⟩ : ∃ H, H = w3.heap.size := ⟨_, rfl⟩
     rw [← hH] at Q6 hb5 ⊢
     have hgH : g2 < H := by omega
     have hH1 : H ≤ w3.heap.size := by omega
     have hH2 : w3.heap.size ≤ H := by omega
     clear hH
     go_loopw [7, 8, 9] (fun i _ _ wr => ∃ r : Nat, r ≤ R ∧ i = .int .i64 ((64 * r : Nat) : Int) ∧ Row wr H (numV (stateN M r).list) 184 ∧ Below H w3 wr) (fun i _ _ _ => N - (intOf i).toNat)
     case atStart => exact ⟨0, by omega, rfl, Q6.out, hb5⟩
     case round =>
      clear Q6 hb5
      obtain ⟨r, hr, rfl, q6, hbr⟩ := hrel
      have hHs := q6.lt
      by_cases hlt : r < R
      ·have hrN : 64 * r + 64 ≤ N := by have := HR.out; omega
       have hbk' : decide (((64 * r : Nat) : Int) < (N : Int)) = true := by simpa using (show ((64 * r : Nat) : Int) < (N : Int) by omega)
       obtain ⟨T, hT⟩ : ∃ T, T = 64 * r := ⟨_, rfl⟩
       rw [← hT] at hbk' hrN ⊢
       have Q6 := Lib.hid q6
       have HT := Lib.hid hT
       clear q6 hT
       go_wp2_with (refine wpList_alloc_zero rfl 186 rfl _ zero25 ?_)
       obtain ⟨X, hX⟩ : ∃ X, X = wr.heap.size := ⟨_, rfl⟩
       have hXH : H < X := by omega
       have qx : Row (wr.alloc (.cells (zbyt 64) 186)) X (bytV (xrowL M r 0)) 186 := by
        rw [hX, xrowL_zero]; exact Row.made _ _ _
       have q6 : Row (wr.alloc (.cells (zbyt 64) 186)) H (numV (stateN M r).list) 184 := Q6.out.alloc _
       have hbx : Below H w3 (wr.alloc (.cells (zbyt 64) 186)) := hbr.alloc (by omega) _
       have QX := Lib.hid qx; have Q6' := Lib.hid q6
       rw [← hX]
       clear qx q6 hX Q6 hbr
       go_loopw [9] (fun i wr => ∃ q : Nat, q ≤ 64 ∧ i = .int .i64 q ∧ Row wr X (bytV (xrowL M r q)) 186 ∧ Row wr H (numV (stateN M r).list) 184 ∧ Below H w3 wr) (fun i _ => 64 - (intOf i).toNat)
       case atStart => exact ⟨0, by omega, rfl, QX.out, Q6'.out, hbx⟩
       case round =>
        clear QX Q6' hbx
        obtain ⟨q, hq, rfl, qx, q6, hbr⟩ := hrel
        by_cases hqt : q < 64
        ·have hbq : decide ((q : Int) < 64) = true := by simpa using (show (q : Int) < 64 by omega)
         obtain ⟨y, hy⟩ : ∃ y, y = M.getD (T + q) 0 := ⟨_, rfl⟩
         have cy : wr.cell? ⟨g2, T + q, none⟩ = some (.int .u8 (y.toNat : Nat)) := by
          rw [hbr.cell (p := ⟨g2, T + q, none⟩) hgH, hy]; exact HC3.out (T + q) (by omega)
         have fx := qx.free q
         have cx : ∃ v, wr.cell? ⟨X, q, none⟩ = some v := ⟨_, by rw [qx.cell, bytV_get _ _ (by rw [xrowL_len M r q (by omega) (by rw [HMl.out, ← HT.out]; exact hrN)]; exact hqt)]⟩
         obtain ⟨v, cx⟩ := cx
         have bq : (0 : Int) ≤ (q : Int) ∧ (q : Int) < 64 := by omega
         have bT : (0 : Int) ≤ (T : Int) + (q : Int) ∧ (T : Int) + (q : Int) < (N : Int) := by omega
         have tT : ((T : Int) + (q : Int)).toNat = T + q := by omega
         have QX := Lib.hid qx; have Q6 := Lib.hid q6; have HY := Lib.hid hy
         clear qx q6 hy
         go_wp2_with fail
         go_roundw
         case rel =>
          refine ⟨q + 1, by omega, by go_num, ?_, Q6.out.other _ _ (by show H ≠ X; omega), hbr.setCell (by show H ≤ X; omega) _⟩
          have := QX.out.set q (.int .u8 (y.toNat : Nat))
          rw [bytV_set, HY.out, HT.out, xrowL_set M r q hqt (by rw [HMl.out, ← HT.out]; exact hrN)] at this
          rw [HY.out, HT.out]
          exact this
         case measure => simp [intOf]; omega
        ·have hq64 : q = 64 := by omega
         have hbq : decide ((q : Int) < 64) = false := by rw [hq64]; rfl
         rw [hq64, xrowL_full] at qx
         obtain ⟨b, hbe⟩ : ∃ b, b = (M.drop (64 * r)).take 64 := ⟨_, rfl⟩
         rw [← hbe] at qx
         have hb64 : b.length = 64 := by
          have h1 := HMl.out; have h2 := HT.out
          rw [hbe, List.length_take, List.length_drop]; omega
         have hst : stateN M (r + 1) = blk (stateN M r) b := by rw [hbe]; exact stateN_succ M r (by rw [HMl.out, ← HT.out]; exact hrN)
         have CB := Lib.hid (fun w => refBlock_any b hb64 (stateN M r) (stateN_ok M r) w)
         have hst' : blkS (stateN M r) (fun i => (b.getD i 0).toNat) = stateN M (r + 1) := hst.symm
         rw [hst'] at CB
         have QX := Lib.hid qx; have Q6 := Lib.hid q6; have HB64 := Lib.hid hb64
         clear qx q6 hbe hb64 hst hst' hq64 hqt
         go_wp2_with (first
          | refine wpList_load_row rfl 184 _ rfl H rfl 184 (numV (stateN M r).list) (0, 0) _ Q6.out Tryz.underlying184 rfl (by rw [numV_size]; exact size24) ?_
          | refine wpList_load_row rfl 186 _ rfl X rfl 186 (bytV b) (0, 0) _ QX.out Tryz.underlying186 rfl (by rw [bytV_size, HB64.out]; exact size25) ?_)
         refine (CB.out _).mono ?_
         rintro e w4 ⟨rfl, hb4'⟩
         have q6' : Row w4 H (numV (stateN M r).list) 184 := Q6.out.step hb4'
         have hbr' : Below H w3 w4 := hbr.trans (hb4'.mono (Nat.le_of_lt Q6.out.lt))
         have Q6' := Lib.hid q6'
         clear q6' hb4' hbr Q6 QX
         go_wp2_with (refine wpList_store_row rfl 184 _ _ rfl H (numV (stateN M (r + 1)).list) rfl rfl 184 (numV (stateN M r).list) Q6'.out (by rw [numV_size]; exact size24) (by rw [numV_size, numV_size]; rfl) (numV_one _) ?_)
         refine ⟨⟨r + 1, by omega, ?_, Row.setRow Q6'.out _, below_setRow hbr' (Nat.le_refl _) _⟩, ?_⟩
         ·exact ret_valH (by have := HT.out; omega)
         ·simp only [intOf]; omega
      ·have hrR : r = R := by omega
       have hlt' : ¬ (64 * r) < N := by have := HR.out; omega
       have hbk' : decide (((64 * r : Nat) : Int) < (N : Int)) = false := decide_eq_false (by omega)
       obtain ⟨T, hT⟩ : ∃ T, T = 64 * r := ⟨_, rfl⟩
       rw [← hT] at hbk' hlt' ⊢
       have hfin : stateN M r = (absorb first (l ++ closing l.length)).1 := by rw [hrR, stateN_full M R (by rw [HMl.out]; exact HR.out), HMe.out]
       obtain ⟨f, hf⟩ : ∃ f, f = stateN M r := ⟨_, rfl⟩
       have hok : f.ok := by rw [hf]; exact stateN_ok M r
       rw [← hf] at q6 hfin
       have HFIN := Lib.hid hfin; have Q6 := Lib.hid q6
       clear hf hfin q6 hT hrR hlt
       go_wp2_with fail
       go_loopw [11, 10] (fun i v wr => ∃ k : Nat, k ≤ 8 ∧ i = .int .i64 k ∧ wr.ownsRow (H + 1) 5 1 v (4 * k) (Lib.byteCells (f.bytes.take (4 * k))) ∧ Row wr H (numV f.list) 184 ∧ Below H w3 wr) (fun i _ _ => 8 - (intOf i).toNat)
       case atStart => exact ⟨0, by omega, rfl, World.ownsRow_nil _ _ _ _, Q6.out, hbr⟩
       case round =>
        clear Q6 hbr
        obtain ⟨k, hk, rfl, hown, q6, hbr⟩ := hrel
        by_cases hlt8 : k < 8
        ·have hbk8 : decide ((k : Int) < 8) = true := by simpa using (show (k : Int) < 8 by omega)
         obtain ⟨x, hx⟩ : ∃ x, x = f.list.getD k 0 := ⟨_, rfl⟩
         have cx : wr.cell? ⟨H, k, none⟩ = some (.int .u32 x) := by rw [q6.cell, numV_get _ _ (by rw [list_len]; exact hlt8), hx]
         have lx : x < 4294967296 := by rw [hx]; exact getD_ok hok k
         have bk : (0 : Int) ≤ (k : Int) ∧ (k : Int) < 8 := by omega
         have Q6 := Lib.hid q6; have HX := Lib.hid hx; have HO := Lib.hid hown
         have hHr := q6.lt
         clear q6 hx hown
         go_wp2_with fail
         have hneH : some H ≠ u10.ownBlock := fun e => by have := (HO.out.lt H e.symm).1; omega
         go_region_held_law (fun w' => w'.cell? ⟨H, k, none⟩ = some (.int .u32 x)) (first | exact cx | exact hgrow4.cell (by go_simp) hneH | (go_simp)) (first | (refine step_append_lies _ rfl (.tmp 66) (.tmp 86) 111 rfl (H + 1) 5 i0 (.int .u8 0) 1 1 Tryz.underlying111 hi hz0 hz1 hz2 rfl (by decide) u10 (4 * k) _ rfl (World.ownsRow.alloc HO.out _) ⟨wr.heap.size, 0, none⟩ 4 4 [.int .u8 (IntKind.u8.wrap ((x : Int) / 16777216)), .int .u8 (IntKind.u8.wrap ((x : Int) / 65536)), .int .u8 (IntKind.u8.wrap ((x : Int) / 256)), .int .u8 (IntKind.u8.wrap (x : Int))] rfl rfl (news4 wr _ _ _ _) (one4 _ _ _ _ _) (by decide) (by unfold maxLen; omega) (by omega) (by show H + 1 ≤ (wr.alloc _).heap.size; simp; omega) _ rfl ?_; intro g4 cap4 w6 hown4 hgrow4 hat4 hlt4))
         have hb6 : Below H w3 w6 := ((hbr.alloc (by omega) _).drew).grown hgrow4 (by show H ≤ (wr.alloc _).heap.size; simp; omega) (fun kk hkk => by have := (HO.out.lt kk hkk).1; omega)
         have q6' : Row w6 H (numV f.list) 184 := by
          unfold Row
          rw [hgrow4.block H (by show H < (wr.alloc _).heap.size; simp; omega) hneH]
          exact (Row.alloc Q6.out _).drew
         have hown5 : w6.ownsRow (H + 1) 5 1 (.slice (some ⟨g4, 0, none⟩) (4 * k + 4) cap4) (4 * (k + 1)) (Lib.byteCells (f.bytes.take (4 * (k + 1)))) := by
          rw [wbytes_cells, ← Lib.byteCells_append, HX.out, ← bytes_take f k hlt8] at hown4
          exact hown4
         have Q6' := Lib.hid q6'; have HO5 := Lib.hid hown5
         clear hown4 hgrow4 hat4 q6' hown5 cx
         go_wp2_with fail
         refine ⟨⟨k + 1, by omega, by go_num, HO5.out, Q6'.out, hb6⟩, ?_⟩
         simp only [intOf]; omega
        ·have hk8 : k = 8 := by omega
         have hbk8 : decide ((k : Int) < 8) = false := by rw [hk8]; rfl
         rw [hk8] at hown
         obtain ⟨g5, cap5, rfl⟩ := ownsRow_slice' (n := 31) hown
         have hfb : f.bytes.take (4 * 8) = f.bytes := List.take_of_length_le (by rw [bytes_len]; decide)
         rw [hfb] at hown
         have hcv := run_convert_bytes_back (P := Tryz.prog) wr 111 9 5 ⟨g5, 0, none⟩ cap5 f.bytes Tryz.underlying111 Tryz.underlying5 Tryz.underlying9
          (fun j hj => hown.cells (g := g5) rfl j _ (by simp [Lib.byteCells, hj]))
         rw [bytes_len] at hcv
         have HCV := Lib.hid hcv
         clear hown hfb hcv hk8 q6
         go_wp2_with (refine wpList_convert rfl _ _ _ rfl _ _ _ rfl HCV.out ?_)
         go_ret
         refine ⟨?_, hb4.trans (hbr.mono ?_)⟩
         ·rw [← HL.out]; unfold shaSum; rw [← HFIN.out]; rfl
         ·omega
  ·have hm : ((m : Int) % 64 != 56) = true := bne_iff_ne.2 (fun e => hjz (HQ.out.1 (by omega)))
   go_wp2_with (at_builtin; refine wpList_append_ownE rfl (.tmp 24) (.tmp 25) 111 rfl w.heap.size 5 i0 (.int .u8 0) Tryz.underlying111 hi hz0 hz1 hz2 rfl _ _ _ rfl (ownsE.step HO.out ((Below.refl _ _).alloc (Nat.le_refl _) _)) ⟨wr.heap.size, 0, none⟩ 1 1 [.int .u8 0] rfl rfl (news_one wr _) (one_cell _ _) (by omega) ?c5 ?_)
   case c5 => have := hb.size; simp; omega
   intro v2 w2 ho2 hg2
   have hb2 : Below w.heap.size w w2 := ownsE.below (ownsE.step HO.out ((Below.refl _ _).alloc (Nat.le_refl _) _)) (hb.alloc hb.size _) (by have := hb.size; simp; omega) hg2
   have ho2' : ownsE w2 w.heap.size 5 v2 (padL l (j + 1)).length (Lib.byteCells (padL l (j + 1))) := by
    have e : Lib.byteCells (padL l j) ++ [Value.int .u8 0] = Lib.byteCells (padL l (j + 1)) := by rw [padL_succ]; simp [Lib.byteCells]
    rw [e] at ho2
    rw [padL_len, ← Nat.add_assoc, ← HLEN.out, ← HME.out]; exact ho2
   obtain ⟨g2, cap2, rfl, _, _, _, _⟩ := ho2'.cells
   have HO2 := Lib.hid ho2'
   have hl2 : (padL l (j + 1)).length = m + 1 := by rw [padL_len, ← Nat.add_assoc, ← HLEN.out, ← HME.out]
   rw [hl2] at HO2 ⊢
   have HL2 := Lib.hid hl2
   clear ho2 ho2' hg2 hl2
   go_wp2_with fail
   refine ⟨⟨j + 1, by omega, ?_, hb2⟩, ?_⟩
   ·rw [HL2.out]; exact HO2.out
   ·show s.size + 1 + 64 - (m + 1) < s.size + 1 + 64 - m
    omega
end Go.Proofs.YtokknppjeckppaaGreatDoor
set_option linter.unusedVariables false
namespace Go.Proofs.YtokknppjeckppaaGreatDoor
open Go.RowKit
attribute [local go_sem] Oper.semAt_some
set_option maxRecDepth 100000 in
set_option maxHeartbeats 1000000 in
theorem rKey_any (n : Nd) (pv ev : Value) (w : World) (hp : IsParts w pv n.ps) (he : IsEntries w ev n.es) :
  Calls Tryz.prog 91 #[ndV n pv ev] w fun e w' => e = .returned (.string ⟨(keyN n).toArray⟩) ∧ Below w.heap.size w w' := by
 have HP := Lib.hid hp; have HE := Lib.hid he
 obtain ⟨_, a1, cap1, hv1, _, _⟩ := hp
 obtain ⟨_, a2, cap2, hv2, _, _⟩ := he
 subst hv1 hv2
 have hb0 := (Below.refl w.heap.size w).alloc (Nat.le_refl _) (.cells #[.int .i64 n.kd, .string n.d, .slice a1 n.ps.length cap1, .slice a2 n.es.length cap2] 53)
 have FA := Lib.hid (rFit_any n _ _ _ (HP.out.stays hb0) (HE.out.stays hb0))
 have HX := Lib.hid (ndBox_new w n (.slice a1 n.ps.length cap1) (.slice a2 n.es.length cap2) 53)
 rcases hf : fitN n with _ | _
 ·rw [hf] at FA
  have HK := Lib.hid (keyN_un hf)
  clear hf
  go_enter Tryz.func91, Tryz.ntmps91
  go_wp2_with fail
  with_reducible refine FA.out.mono ?_
  rintro e w1 ⟨rfl, hb1⟩
  go_wp2
  go_ret
  exact ⟨by rw [HK.out]; rfl, below_step hb0 hb1⟩
 ·rw [hf] at FA
  have hl := wrL_len hf
  obtain ⟨Y, hY1, hY2⟩ := ex_str (wrL n)
  have WA := Lib.hid (fun w h1 h2 => rWriteF_any n (.slice a1 n.ps.length cap1) (.slice a2 n.es.length cap2) w h1 h2 hf)
  rw [wrN_fit hf, ← hY1] at WA
  have SA := Lib.hid (fun w => refSum_any Y (by rw [Lib.size_eq, hY2]; omega) w)
  rw [hY2] at SA
  have HK := Lib.hid (keyN_fit hf)
  clear hf hY1 hY2 hl
  go_enter Tryz.func91, Tryz.ntmps91
  go_wp2_with fail
  with_reducible refine FA.out.mono ?_
  rintro e w1 ⟨rfl, hb1⟩
  have HB1 := Lib.hid (below_step hb0 hb1)
  obtain ⟨x0, x1, x2, x3⟩ := (HX.out.stays hb1).cells
  clear hb0 hb1
  go_wp2_with fail
  refine (WA.out _ (HP.out.stays HB1.out) (HE.out.stays HB1.out)).mono ?_
  rintro e w2 ⟨rfl, hb2⟩
  have HB2 := Lib.hid (below_step HB1.out hb2)
  clear hb2 x0 x1 x2 x3
  go_wp2_with fail
  with_reducible refine (SA.out _).mono ?_
  rintro e w3 ⟨rfl, hb3⟩
  go_wp2
  go_ret
  exact ⟨by rw [HK.out]; rfl, below_step HB2.out hb3⟩
def AddOn (L : List Ob) (x : Ob) (k : Nat) (d : Bool) (out : List Ob) : Prop := out.length = k + (if d then 1 else 0) ∧ out ++ (if d then L.drop k else insO (L.drop k) x) = insO L x
theorem addOn_zero (L : List Ob) (x : Ob) : AddOn L x 0 false [] := ⟨by simp, by simp⟩
theorem addOn_len {L : List Ob} {x : Ob} {k : Nat} {d : Bool} {out : List Ob} (h : AddOn L x k d out) : out.length ≤ k + 1 := by have := h.1; split at this <;> omega
theorem addOn_done {L : List Ob} {x : Ob} {k : Nat} {out : List Ob} (h : AddOn L x k true out) (hk : k < L.length) : AddOn L x (k + 1) true (out ++ [L[k]]) :=
 ⟨by have := h.1; simp at this ⊢; omega, by have := h.2; rw [if_pos rfl, List.drop_eq_getElem_cons hk] at this; rw [if_pos rfl, ← this]; simp⟩
theorem addOn_here {L : List Ob} {x : Ob} {k : Nat} {out : List Ob} (h : AddOn L x k false out) (hk : k < L.length) (hx : x.t < L[k].t) : AddOn L x (k + 1) true ((out ++ [x]) ++ [L[k]]) :=
 ⟨by have := h.1; simp at this ⊢; omega, by
  have := h.2
  rw [if_neg (by decide), List.drop_eq_getElem_cons hk, insO_cons, if_pos hx] at this
  rw [if_pos rfl, ← this]; simp⟩
theorem addOn_past {L : List Ob} {x : Ob} {k : Nat} {out : List Ob} (h : AddOn L x k false out) (hk : k < L.length) (hx : ¬ x.t < L[k].t) : AddOn L x (k + 1) false (out ++ [L[k]]) :=
 ⟨by have := h.1; simp at this ⊢; omega, by
  have := h.2
  rw [if_neg (by decide), List.drop_eq_getElem_cons hk, insO_cons, if_neg hx] at this
  rw [if_neg (by decide), ← this]; simp⟩
theorem addOn_end {L : List Ob} {x : Ob} {k : Nat} {d : Bool} {out : List Ob} (h : AddOn L x k d out) (hk : L.length ≤ k) : out ++ (if d then [] else [x]) = insO L x := by
 have := h.2
 rw [List.drop_of_length_le hk] at this
 cases d
 ·exact this
 ·exact this
theorem wpList_append_ob {ops : Array Oper} {rest : List Oper} {o : Oper} {a : Act} {W w0 : World} {z : Nat} {Q : Exit → Act → World → Prop} (hgd : o.guard = none) (s x : Operand)
  (ho : o.op = .call { callee := .builtin .append, args := #[s, x], argTypes := #[22, 22] })
  {v : Value} {M : List Ob} {y : Ob} (hown : OwnO W.heap.size w0 v M) (hb : Below W.heap.size W w0) (hz : z = w0.heap.size) (hs : a.eval s = v)
  (hx : a.eval x = .slice (some ⟨z, 0, none⟩) 1 1) (hlen : M.length ≤ 1000000)
  (h : ∀ v' w', OwnO W.heap.size w' v' (M ++ [y]) → Below W.heap.size W w' → wpList Tryz.prog ops Q rest (a.put o.dst v') w') :
  wpList Tryz.prog ops Q (o :: rest) a (w0.alloc (.cells #[.string y.k, .string y.r] 61)) := by
 subst hz
 refine wpList_append_obs hgd s x ho hown hb.size hs hx hlen ?_
 intro v' w' h1 h2
 exact h v' w' h1 (hb.grown h2 hb.size (fun j hj => (hown.lt j hj).1))
set_option maxRecDepth 100000 in
set_option maxHeartbeats 8000000 in
theorem rAdd_any (v : Value) (L : List Ob) (x : Ob) (w : World) (h : IsObs w v L) (hL : L.length ≤ 900000) :
  Calls Tryz.prog 43 #[v, obV x] w fun e w' => ∃ v', e = .returned v' ∧ IsObs w' v' (addO L x) ∧ Below w.heap.size w w' ∧ (v' = v ∧ addO L x = L ∨ OwnO w.heap.size w' v' (addO L x)) := by
 obtain ⟨V, hV⟩ : ∃ V, V = w.alloc (.cells #[.string x.k, .string x.r] 61) := ⟨_, rfl⟩
 have hbV : Below w.heap.size w V := by rw [hV]; exact (Below.refl _ _).alloc (Nat.le_refl _) _
 have HX : Hid (ObBox V w.heap.size x) := Lib.hid (by rw [hV]; exact obBox_new w x _)
 have HI := Lib.hid (h.stays hbV)
 have HV := Lib.hid hV; have HB0 := Lib.hid hbV
 have G := Lib.hid (rGet_any v L x.k V HI.out)
 obtain ⟨_, a, cap, rfl, _, _⟩ := h
 clear hV hbV
 obtain ⟨d0, d1⟩ := HX.out.cells
 by_cases hin : (getO L x.t).isSome = true ∨ x.t.length ≠ 32
 ·have HR := Lib.hid (addO_there hin)
  rcases hg : (getO L x.t).isSome with _ | _
  ·have h32 : (((x.k.size : Nat) : Int) != 32) = true := by
    have := hin.resolve_left (by rw [hg]; decide)
    rw [Ob.t, ← Lib.size_eq] at this
    simp; omega
   rw [show getO L x.k.data.toList = getO L x.t from rfl, hg] at G
   clear hg hin
   go_enter Tryz.func43, Tryz.ntmps43
   go_wp2_with fail
   rw [← HV.out]
   go_wp2_with fail
   with_reducible refine G.out.mono ?_
   rintro e w1 ⟨rfl, hb⟩
   obtain ⟨e0, e1⟩ := (HX.out.stays hb).cells
   clear d0 d1
   go_wp2
   go_ret
   exact ⟨.slice a L.length cap, rfl, by rw [HR.out]; exact HI.out.stays hb, below_step HB0.out hb, .inl ⟨rfl, HR.out⟩⟩
  ·rw [show getO L x.k.data.toList = getO L x.t from rfl, hg] at G
   clear hg hin
   go_enter Tryz.func43, Tryz.ntmps43
   go_wp2_with fail
   rw [← HV.out]
   go_wp2_with fail
   with_reducible refine G.out.mono ?_
   rintro e w1 ⟨rfl, hb⟩
   clear d0 d1
   go_wp2
   go_ret
   exact ⟨.slice a L.length cap, rfl, by rw [HR.out]; exact HI.out.stays hb, below_step HB0.out hb, .inl ⟨rfl, HR.out⟩⟩
 ·have HR : Hid (addO L x = insO L x) := Lib.hid (if_neg hin)
  rw [not_or] at hin
  have h32 : (((x.k.size : Nat) : Int) != 32) = false := by
   have := Decidable.not_not.1 hin.2
   rw [Ob.t, ← Lib.size_eq] at this
   rw [this]; rfl
  rw [show (getO L x.k.data.toList).isSome = false by simpa [Ob.t] using hin.1] at G
  clear hin
  go_enter Tryz.func43, Tryz.ntmps43
  go_wp2_with fail
  rw [← HV.out]
  go_wp2_with fail
  with_reducible refine G.out.mono ?_
  rintro e w1 ⟨rfl, hb⟩
  have HX1 := Lib.hid (HX.out.stays hb)
  have HI1 := Lib.hid (HI.out.stays hb)
  have HB1 := Lib.hid (below_step HB0.out hb)
  clear d0 d1 hb HX HI HB0 HV
  obtain ⟨d0, d1⟩ := HX1.out.cells
  go_wp2
  obtain ⟨B, hB⟩ : ∃ B, B = w.heap.size := ⟨_, rfl⟩
  rw [← hB] at HX1 d0 d1 ⊢
  have HBE := Lib.hid hB; clear hB
  go_loopw [7, 8, 9] (fun o d i wr => ∃ (k : Nat) (db : Bool) (out : List Ob), k ≤ L.length ∧ i = .int .i64 k ∧ d = .bool db ∧ AddOn L x k db out ∧ OwnO w1.heap.size wr o out ∧ Below w1.heap.size w1 wr) (fun _ _ i _ => L.length - (intOf i).toNat)
  case atStart => exact ⟨0, false, [], Nat.zero_le _, rfl, rfl, addOn_zero _ _, obs_own_nil _ _, Below.refl _ _⟩
  case round =>
   clear d0 d1
   obtain ⟨k, db, out, hk, rfl, rfl, hA, hO, hB⟩ := hrel
   have hlen := addOn_len hA
   have hol : out.length ≤ 1000000 := by omega
   have HA := Lib.hid hA; have HO := Lib.hid hO
   have HX2 := Lib.hid (HX1.out.stays hB)
   obtain ⟨d0, d1⟩ := HX2.out.cells
   clear hA hO hlen
   by_cases hlt : k < L.length
   ·obtain ⟨_, _, _, e, _, hc⟩ := HI1.out
    cases e
    obtain ⟨b, off, rfl, hbl, g⟩ := hc (by omega)
    obtain ⟨c0, c1⟩ := (g k hlt).stays hbl hB
    have HG := Lib.hid (g k hlt)
    clear g hc
    have hbk : decide ((k : Int) < (L.length : Int)) = true := by simpa using (show (k : Int) < L.length by omega)
    cases db with
    | true =>
     have HS := Lib.hid (addOn_done HA.out hlt)
     obtain ⟨y, hy⟩ : ∃ y, y = L[k] := ⟨_, rfl⟩
     rw [← hy] at c0 c1 HG HS
     clear hy
     go_wp2_with fail
     go_quiet (fail)
     have hbq : Below wr.heap.size wr (wr.drewN nq) := below_drewN (Below.refl _ _) _
     have HO2 := Lib.hid (HO.out.stays hbq)
     have hB2 := below_step hB hbq
     obtain ⟨e0, e1⟩ := HG.out.stays hbl hB2
     clear c0 c1 d0 d1 hB
     generalize wr.drewN nq = wq at HO2 hB2 e0 e1 hbq ⊢
     go_wp2_with (at_builtin; refine wpList_append_ob rfl _ _ rfl HO2.out hB2 rfl rfl rfl hol ?_)
     intro v' w2 hown' hb2
     have HO3 := Lib.hid hown'; clear hown'
     go_wp2
     go_roundw
     case rel => exact ⟨k + 1, true, _, by omega, by go_num, rfl, HS.out, HO3.out, hb2⟩
     case measure => simp [intOf]; omega
    | false =>
     by_cases hlx : x.t < L[k].t
     ·have HS := Lib.hid (addOn_here HA.out hlt hlx)
      obtain ⟨y, hy⟩ : ∃ y, y = L[k] := ⟨_, rfl⟩
      rw [← hy] at c0 c1 HG HS hlx
      clear hy
      have l1 : Op.bytesLess y.k.toList x.k.toList = false := by rw [less_eq]; exact decide_eq_false (t_asymm hlx)
      have l2 : (y.k.toList == x.k.toList) = false := beq_false (fun e => t_irrefl _ (show x.t < x.t by
       have : y.t = x.t := by unfold Ob.t; rw [e]
       rw [this] at hlx; exact hlx))
      clear hlx
      have hol2 : (out ++ [x]).length ≤ 1000000 := by have := HA.out.1; simp at this; rw [List.length_append, List.length_singleton]; omega
      go_wp2_with fail
      go_quiet (fail)
      have hbq : Below wr.heap.size wr (wr.drewN nq) := below_drewN (Below.refl _ _) _
      have HO2 := Lib.hid (HO.out.stays hbq)
      have hB2 := below_step hB hbq
      clear c0 c1 d0 d1 hB
      generalize wr.drewN nq = wq at HO2 hB2 hbq ⊢
      obtain ⟨d0, d1⟩ := (HX1.out.stays hB2).cells
      go_wp2_with (at_builtin; refine wpList_append_ob rfl _ _ rfl HO2.out hB2 rfl rfl rfl hol ?_)
      intro v1 w2 hown1 hb1
      have HO3 := Lib.hid hown1; clear hown1
      clear d0 d1
      obtain ⟨e0, e1⟩ := HG.out.stays hbl hb1
      go_wp2_with (at_builtin; refine wpList_append_ob rfl _ _ rfl HO3.out hb1 rfl rfl rfl hol2 ?_)
      intro v' w3 hown' hb2
      have HO4 := Lib.hid hown'; clear hown'
      go_wp2
      go_roundw
      case rel => exact ⟨k + 1, true, _, by omega, by go_num, rfl, HS.out, by simpa using HO4.out, hb2⟩
      case measure => simp [intOf]; omega
     ·have HS := Lib.hid (addOn_past HA.out hlt hlx)
      obtain ⟨y, hy⟩ : ∃ y, y = L[k] := ⟨_, rfl⟩
      rw [← hy] at c0 c1 HG HS hlx
      clear hy
      have l0 : (Op.bytesLess y.k.toList x.k.toList || (y.k.toList == x.k.toList)) = true := by
       rw [less_eq]
       by_cases e : y.k = x.k
       ·rw [beq_true e, Bool.or_true]
       ·rw [decide_eq_true (Classical.byContradiction fun c => e (str_eq' (t_tri _ _ c hlx))), Bool.true_or]
      clear hlx
      go_wp2_with fail
      go_quiet (fail)
      have hbq : Below wr.heap.size wr (wr.drewN nq) := below_drewN (Below.refl _ _) _
      have HO2 := Lib.hid (HO.out.stays hbq)
      have hB2 := below_step hB hbq
      obtain ⟨e0, e1⟩ := HG.out.stays hbl hB2
      clear c0 c1 d0 d1 hB
      generalize wr.drewN nq = wq at HO2 hB2 e0 e1 hbq ⊢
      go_wp2_with (at_builtin; refine wpList_append_ob rfl _ _ rfl HO2.out hB2 rfl rfl rfl hol ?_)
      intro v' w2 hown' hb2
      have HO3 := Lib.hid hown'; clear hown'
      go_wp2
      go_roundw
      case rel => exact ⟨k + 1, false, _, by omega, by go_num, rfl, HS.out, HO3.out, hb2⟩
      case measure => simp [intOf]; omega
   ·have HE := Lib.hid (addOn_end HA.out (by omega))
    have hge : decide ((k : Int) < (L.length : Int)) = false := by simp; omega
    cases db with
    | true =>
     go_wp2
     go_ret
     exact ⟨u7, rfl, by have h := HO.out.is; rw [HR.out, ← HE.out]; simpa using h, below_step HB1.out (hB.mono (Nat.le_refl _)), .inr (by have h := HO.out.low HB1.out.size; rw [HR.out, ← HE.out]; simpa [HBE.out] using h)⟩
    | false =>
     go_wp2_with (at_builtin; refine wpList_append_ob rfl _ _ rfl HO.out hB rfl rfl rfl hol ?_)
     intro v' w2 hown' hb2
     have HO3 := Lib.hid hown'; clear hown'
     go_wp2
     go_ret
     exact ⟨v', rfl, by have h := HO3.out.is; rw [HR.out, ← HE.out]; simpa using h, below_step HB1.out hb2, .inr (by have h := HO3.out.low HB1.out.size; rw [HR.out, ← HE.out]; simpa using h)⟩
def RetOK (v : Value) (L L' : List Ob) (k : List UInt8) (w : World) (e : Ending) (w' : World) : Prop := ∃ v', e = .returned (.tuple #[v', .string ⟨k.toArray⟩]) ∧ IsObs w' v' L' ∧ Below w.heap.size w w' ∧ (v' = v ∧ L' = L ∨ OwnO w.heap.size w' v' L')
set_option maxRecDepth 100000 in
set_option maxHeartbeats 4000000 in
theorem rPut_any (v : Value) (L : List Ob) (n : Nd) (pv ev : Value) (w : World) (h : IsObs w v L) (hL : L.length ≤ 900000) (hp : IsParts w pv n.ps) (he : IsEntries w ev n.es) :
  Calls Tryz.prog 69 #[v, ndV n pv ev] w (RetOK v L (putN L n) (keyN n) w) := by
 obtain ⟨V, hV⟩ : ∃ V, V = w.alloc (.cells #[.int .i64 n.kd, .string n.d, pv, ev] 53) := ⟨_, rfl⟩
 have hbV : Below w.heap.size w V := by rw [hV]; exact (Below.refl _ _).alloc (Nat.le_refl _) _
 have HX : Hid (NdBox V w.heap.size n pv ev) := Lib.hid (by rw [hV]; exact ndBox_new w n _ _ _)
 have HI := Lib.hid (h.stays hbV); have HP := Lib.hid (hp.stays hbV); have HE := Lib.hid (he.stays hbV)
 obtain ⟨_, a0, cap0, rfl, _, _⟩ := h
 obtain ⟨_, a1, cap1, rfl, _, _⟩ := hp
 obtain ⟨_, a2, cap2, rfl, _, _⟩ := he
 obtain ⟨z1, hz1⟩ : ∃ z, z = n.ps.length := ⟨_, rfl⟩
 obtain ⟨z2, hz2⟩ : ∃ z, z = n.es.length := ⟨_, rfl⟩
 obtain ⟨z0, hz0⟩ : ∃ z, z = L.length := ⟨_, rfl⟩
 rw [← hz1] at HX HP hV ⊢; rw [← hz2] at HX HE hV ⊢; rw [← hz0] at HI hL ⊢
 have HZ := Lib.hid hz0
 clear hz0 hz1 hz2
 have HV := Lib.hid hV; have HB0 := Lib.hid hbV
 obtain ⟨K, hK⟩ : ∃ K : ByteArray, K = ⟨(keyN n).toArray⟩ := ⟨_, rfl⟩
 obtain ⟨S, hS⟩ : ∃ S : ByteArray, S = ⟨(wrN n).toArray⟩ := ⟨_, rfl⟩
 have CK := Lib.hid (rKey_any n (.slice a1 z1 cap1) (.slice a2 z2 cap2) V HP.out HE.out)
 rw [← hK] at CK
 have CW := Lib.hid (fun W (hb : Below V.heap.size V W) => rWrite_any n (.slice a1 z1 cap1) (.slice a2 z2 cap2) W (HP.out.stays hb) (HE.out.stays hb))
 rw [← hS] at CW
 have HO : Hid ((⟨K, S⟩ : Ob) = obN n) := Lib.hid (by rw [hK, hS]; rfl)
 have HK := Lib.hid hK
 clear hV hbV hK hS HP HE
 obtain ⟨d0, d1, d2, d3⟩ := HX.out.cells
 go_enter Tryz.func69, Tryz.ntmps69
 go_wp2_with fail
 rw [← HV.out]
 go_wp2_with fail
 with_reducible refine CK.out.mono ?_
 rintro e w1 ⟨rfl, hb1⟩
 have HX1 := Lib.hid (HX.out.stays hb1)
 clear d0 d1 d2 d3
 obtain ⟨d0, d1, d2, d3⟩ := HX1.out.cells
 go_wp2_with fail
 with_reducible refine (CW.out _ hb1).mono ?_
 rintro e w2 ⟨rfl, hb2⟩
 have hb3 := below_step hb1 hb2
 have CA := Lib.hid (rAdd_any (.slice a0 z0 cap0) L ⟨K, S⟩ w2 (HI.out.stays hb3) (by rw [← HZ.out]; exact hL))
 have HB3 := Lib.hid (below_step HB0.out hb3)
 clear d0 d1 d2 d3 hb1 hb2 hb3
 go_wp2_with fail
 with_reducible refine CA.out.mono ?_
 rintro e w4 ⟨v4, rfl, hs4, hb4, hv4⟩
 have HS4 := Lib.hid hs4; have HV4 := Lib.hid hv4
 obtain ⟨_, a4, cap4, rfl, _, _⟩ := hs4
 have HB4 := Lib.hid (below_step HB3.out hb4)
 have hv5 := HV4.out.imp id fun h => h.low HB3.out.size
 have HV5 := Lib.hid hv5
 clear hb4 hv4 hv5
 go_wp2
 exact bodyPost_ret (v := .tuple #[.slice a4 (addO L ⟨K, S⟩).length cap4, .string K]) (by simp [results, Tryz.results69, go_sem]) rfl ⟨_, by rw [← HK.out], by unfold putN; rw [← HO.out]; exact HS4.out, HB4.out, by unfold putN; rw [← HO.out]; exact HV5.out⟩
end Go.Proofs.YtokknppjeckppaaGreatDoor
set_option linter.unusedVariables false
namespace Go.Proofs.YtokknppjeckppaaGreatDoor
open Go.RowKit
set_option maxRecDepth 100000 in
set_option maxHeartbeats 2000000 in
theorem refTake_any (s : ByteArray) (hs : s.size ≤ maxLen) (w : World) :
  Calls Tryz.prog 45 #[.string s] w fun e w' => e = .returned (.tuple #[.int .u64 ((vtake s.data.toList).1 : Nat), .int .i64 ((vtake s.data.toList).2.1 : Nat), .int .i64 ((vtake s.data.toList).2.2 : Nat)]) ∧ w' = w := by
 have hsm : s.size ≤ 9223372036854775807 := by unfold maxLen at hs; omega
 have HS := Lib.hid (Lib.size_eq s)
 go_enter Tryz.func45, Tryz.ntmps45
 go_wp2
 go_loop [5, 6] (fun t p => ∃ a i : Nat, t = .int .u64 a ∧ p = .int .i64 i ∧ refI s.data.toList i a) (fun _ p => 10 - (intOf p).toNat)
 case atStart => exact ⟨0, 0, rfl, rfl, refI_zero _⟩
 case round =>
  obtain ⟨a, i, rfl, rfl, hI⟩ := hrel
  have hi9 : i ≤ 9 := hI.1
  by_cases hlt : i < s.size
  ·have hb : s[i].toNat < 256 := s[i].toNat_lt
   have hil : i < s.data.toList.length := by rw [← HS.out]; exact hlt
   have hbe : s.data.toList[i] = s[i] := rfl
   by_cases hA : i = 9 ∧ 1 < s[i].toNat
   ·have h9 : ((i : Int) == 9) = true := by rw [hA.1]; rfl
    have h1 : (1 : Int) < (s[i].toNat : Int) := by omega
    have HV := Lib.hid (refI_range hI hil hA)
    clear hA hbe hI
    go_wp2
    go_ret3
    exact ⟨by rw [HV.out]; rfl, rfl⟩
   ·have hAw : (((i : Nat) : Int) == 9) = false ∨ ((((i : Nat) : Int) == 9) = true ∧ ¬ (1 : Int) < (s[i].toNat : Int)) := by
     by_cases h9 : i = 9
     ·right; exact ⟨by rw [h9]; rfl, by omega⟩
     ·left; exact beq_eq_false_iff_ne.2 (by omega)
    obtain ⟨hsum, hlim⟩ := ref_sum (c := s[i].toNat) hI.2.2.1 hi9 hA hb
    obtain ⟨X, hX⟩ : ∃ X, X = a + s[i].toNat % 128 * 2 ^ (7 * i) := ⟨_, rfl⟩
    rw [← hX] at hsum hlim
    have HX := Lib.hid hX; clear hX hlim
    by_cases hc : s[i].toNat < 128
    ·by_cases hz : s[i].toNat = 0 ∧ 0 < i
     ·have hz1 : ((s[i].toNat : Int) == 0) = true := by rw [hz.1]; rfl
      have hz2 : (0 : Int) < (i : Int) := by omega
      have HV := Lib.hid (refI_form hI hil hA hz)
      clear hz hA hI hbe
      rcases hAw with h9 | ⟨h9, h91⟩
      all_goals
       go_wp2
       go_ret3
       exact ⟨by rw [HV.out]; rfl, rfl⟩
     ·have hzw : (((s[i].toNat : Int) == 0) = false) ∨ (((s[i].toNat : Int) == 0) = true ∧ ¬ (0 : Int) < (i : Int)) := by
       by_cases h0 : s[i].toNat = 0
       ·right; exact ⟨by rw [h0]; rfl, by omega⟩
       ·left; exact beq_eq_false_iff_ne.2 (by omega)
      have hv : vtake s.data.toList = (X, i + 1, 0) := by
       rw [refI_last hI hil hA hz hc, HX.out, hbe, Nat.mod_eq_of_lt hc]
      have HV := Lib.hid hv
      clear hv hz hA hI hbe
      rcases hAw with h9 | ⟨h9, h91⟩ <;> rcases hzw with hz | ⟨hz, hz1⟩
      all_goals
       go_wp2
       go_ret3
       exact ⟨by rw [HV.out]; rfl, rfl⟩
    ·have hc' : ¬ (s[i].toNat : Int) < 128 := by omega
     have hon := refI_on hI hil hA (by rw [hbe]; omega)
     rw [hbe, ← HX.out] at hon
     have hi8 : i ≤ 8 := by have := hon.1; omega
     have h9 : ((i : Int) == 9) = false := beq_eq_false_iff_ne.2 (by omega)
     clear hAw hA hI hbe
     go_wp2
     go_round
     case rel => exact ⟨X, i + 1, rfl, by go_num, hon⟩
     case measure => simp [intOf]; omega
  ·have hge : (s.size : Int) ≤ (i : Int) := by omega
   have HV := Lib.hid (refI_short hI (by rw [← HS.out]; omega))
   clear hI
   go_wp2
   go_ret3
   exact ⟨by rw [HV.out]; rfl, rfl⟩
end Go.Proofs.YtokknppjeckppaaGreatDoor
namespace Go.Proofs.YtokknppjeckppaaGreatDoor
open Go.RowKit
set_option maxRecDepth 100000 in
set_option maxHeartbeats 1000000 in
theorem refTakeText_any (s : ByteArray) (hs : s.size ≤ maxLen) (w : World) :
  Calls Tryz.prog 61 #[.string s] w fun e w' => e = .returned (.tuple #[.string ⟨(vtakeText s.data.toList).1.toArray⟩, .int .i64 ((vtakeText s.data.toList).2.1 : Nat), .int .i64 ((vtakeText s.data.toList).2.2 : Nat)]) ∧ w' = w := by
 have hsm : s.size ≤ 9223372036854775807 := by unfold maxLen at hs; omega
 have HS := Lib.hid (Lib.size_eq s)
 have hc := refTake_any s hs w
 obtain ⟨n, k, e, hv⟩ : ∃ n k e, vtake s.data.toList = (n, k, e) := ⟨_, _, _, rfl⟩
 rw [hv] at hc
 have HV := Lib.hid (takeText_of hv)
 by_cases he : e = 0
 ·subst he
  obtain ⟨h1, h2, h3, h4, h5⟩ := put_take hv
  clear h1
  rw [← HS.out] at h3
  by_cases hn : n ≤ 65536
  ·by_cases hl : s.size < k + n
   ·have HR := Lib.hid (show vtakeText s.data.toList = ([], 0, 1) by rw [HV.out, if_neg (by simp), if_neg (by omega), if_pos (by rw [← HS.out]; exact hl)])
    clear hv
    go_enter Tryz.func61, Tryz.ntmps61
    go_wp2_with (go_at_call 45; refine hc.mono ?_; rintro e w' ⟨rfl, rfl⟩)
    go_ret3
    exact ⟨by rw [HR.out]; rfl, rfl⟩
   ·have HR := Lib.hid (show vtakeText s.data.toList = ((s.data.toList.drop k).take n, k + n, 0) by rw [HV.out, if_neg (by simp), if_neg (by omega), if_neg (by rw [← HS.out]; exact hl)])
    clear hv
    have hsl := fun W => run_slice_nat (P := Tryz.prog) Tryz.underlying9 s k n (by omega) W
    go_enter Tryz.func61, Tryz.ntmps61
    go_wp2_with (go_at_call 45; refine hc.mono ?_; rintro e w' ⟨rfl, rfl⟩)
    go_ret3
    exact ⟨by rw [HR.out]; exact three_of ⟨congrArg (Value.int .i64) (Int.natCast_add k n).symm, rfl⟩ (piece_eq s k n), rfl⟩
  ·have HR := Lib.hid (show vtakeText s.data.toList = ([], 0, 4) by rw [HV.out, if_neg (by simp), if_pos (by omega)])
   clear hv
   have hn' : (65536 : Int) < (n : Int) := by omega
   go_enter Tryz.func61, Tryz.ntmps61
   go_wp2_with (go_at_call 45; refine hc.mono ?_; rintro e w' ⟨rfl, rfl⟩)
   go_ret3
   exact ⟨by rw [HR.out]; rfl, rfl⟩
 ·obtain ⟨rfl, rfl, he4⟩ := vtake_err hv he
  have HR := Lib.hid (show vtakeText s.data.toList = ([], 0, e) by rw [HV.out, if_pos he])
  clear hv
  have he' : (!((e : Int) == 0)) = true := by simp; omega
  have he2 : ((e : Int) != 0) = true := by simp; omega
  go_enter Tryz.func61, Tryz.ntmps61
  go_wp2_with (go_at_call 45; refine hc.mono ?_; rintro e w' ⟨rfl, rfl⟩)
  go_ret3
  exact ⟨by rw [HR.out]; rfl, rfl⟩
end Go.Proofs.YtokknppjeckppaaGreatDoor
set_option linter.unusedVariables false
namespace Go.Proofs.YtokknppjeckppaaGreatDoor
open Go.RowKit
attribute [local go_sem] Oper.semAt_some
def rPartV (o : Option (Pt × List UInt8)) : Value := match o with
 | some x => .tuple #[.agg #[.string x.1.k, .int .i64 x.1.n], .string ⟨x.2.toArray⟩, .bool true]
 | none => .tuple #[.agg #[.string ⟨#[]⟩, .int .i64 0], .string ⟨#[]⟩, .bool false]
set_option maxRecDepth 100000 in
set_option maxHeartbeats 600000 in
theorem rpart_any (S : ByteArray) (hS : S.size ≤ 1000000) (w : World) :
  Calls Tryz.prog 46 #[.string S] w fun e w' => e = .returned (rPartV (pPart S.data.toList)) ∧ Below w.heap.size w w' := by
 have hlen := Lib.size_eq S
 by_cases h32 : S.size < 32
 ·have hO : Hid (pPart S.data.toList = none) := Lib.hid (by unfold pPart; rw [if_pos (by omega)])
  have q : decide (S.size < 32) = true := decide_eq_true h32
  have q' : decide ((S.size : Int) < 32) = true := decide_eq_true (by omega)
  clear h32 hlen
  go_enter Tryz.func46, Tryz.ntmps46
  go_wp2
  exact bodyPost_ret (v := .tuple #[.agg #[.string ⟨#[]⟩, .int .i64 0], .string ⟨#[]⟩, .bool false]) (by simp [results, Tryz.results46, go_sem]) rfl ⟨by rw [hO.out]; rfl, (Below.refl _ _).alloc (Nat.le_refl _) _⟩
 ·have q' : decide ((S.size : Int) < 32) = false := decide_eq_false (by omega)
  have hge : ¬ ((S.size : Int) < 32) := by omega
  have hRl : (S.extract 32 S.size).data.toList = S.data.toList.drop 32 := drop_str S 32
  have hKl : (S.extract 0 32).data.toList = S.data.toList.take 32 := take_str S 32
  have hRs : (S.extract 32 S.size).size = S.size - 32 := by rw [Lib.size_eq, hRl, List.length_drop, ← hlen]
  have T := Lib.hid (fun w => refTake_any (S.extract 32 S.size) (by unfold maxLen; omega) w)
  rw [hRl] at T
  obtain ⟨n, j, x, hv⟩ : ∃ n j x, vtake (S.data.toList.drop 32) = (n, j, x) := ⟨_, _, _, rfl⟩
  rw [hv] at T
  by_cases hx : x = 0
  ·subst hx
   obtain ⟨_, _, hj, _, _⟩ := put_take hv
   rw [List.length_drop, ← hlen] at hj
   by_cases h4 : 4096 < n
   ·have hO : Hid (pPart S.data.toList = none) := Lib.hid (by unfold pPart; rw [if_neg (by omega), hv, if_neg (by simp), if_pos h4])
    have q2 : decide ((4096 : Int) < (n : Int)) = true := decide_eq_true (by omega)
    clear hv h4 h32 hlen hRs hRl hKl
    go_enter Tryz.func46, Tryz.ntmps46
    go_wp2_with fail
    with_reducible refine (T.out _).mono ?_
    rintro e w1 ⟨rfl, hw1⟩
    subst hw1
    go_wp2
    exact bodyPost_ret (v := .tuple #[.agg #[.string ⟨#[]⟩, .int .i64 0], .string ⟨#[]⟩, .bool false]) (by simp [results, Tryz.results46, go_sem]) rfl ⟨by rw [hO.out]; rfl, (Below.refl _ _).alloc (Nat.le_refl _) _⟩
   ·have hO : Hid (pPart S.data.toList = some (⟨S.extract 0 32, (n : Int)⟩, (S.data.toList.drop 32).drop j)) := Lib.hid (by
     unfold pPart; rw [if_neg (by omega), hv, if_neg (by simp), if_neg h4, List.drop_drop, ← hKl])
    have q2 : decide ((4096 : Int) < (n : Int)) = false := decide_eq_false (by omega)
    have hn : n ≤ 4096 := by omega
    have hs2 := fun W => run_slice_from (P := Tryz.prog) Tryz.underlying9 S (32 + j) (by omega) W
    obtain ⟨Q, hQ⟩ : ∃ Q, Q = S.extract (32 + j) S.size := ⟨_, rfl⟩
    rw [← hQ] at hs2
    have hQl : Hid (Q = ⟨((S.data.toList.drop 32).drop j).toArray⟩) := Lib.hid (str_eq' (by rw [hQ, drop_str, List.drop_drop]))
    have hw1 : IntKind.i64.wrap (32 + (j : Int)) = ((32 + j : Nat) : Int) := by rw [IntKind.wrap_i64]; omega
    have hs3 : ∀ W, Sem.run Tryz.prog (Instr.slice 9 (.string S) (some (.int .i64 (32 + (j : Int)))) none none) W = .ok (.string Q) W := fun W => by
     have := hs2 W; push_cast at this; exact this
    clear hv h4 h32 hs2 hQ hRl hKl hlen hRs
    go_enter Tryz.func46, Tryz.ntmps46
    go_wp2_with fail
    with_reducible refine (T.out _).mono ?_
    rintro e w1 ⟨rfl, hw1'⟩
    subst hw1'
    go_wp2_with fail
    go_region
    go_wp2
    exact bodyPost_ret (v := .tuple #[.agg #[.string (S.extract 0 32), .int .i64 (n : Int)], .string Q, .bool true]) (by simp [results, Tryz.results46, go_sem]) rfl ⟨by rw [hO.out, hQl.out]; rfl, ((Below.refl _ _).alloc (Nat.le_refl _) _).drew⟩
  ·have hO : Hid (pPart S.data.toList = none) := Lib.hid (by unfold pPart; rw [if_neg (by omega), hv, if_pos hx])
   have q2 : ((x : Int) != 0) = true := in_t (by omega)
   clear hv hx h32 hlen hRs hRl hKl
   go_enter Tryz.func46, Tryz.ntmps46
   go_wp2_with fail
   with_reducible refine (T.out _).mono ?_
   rintro e w1 ⟨rfl, hw1⟩
   subst hw1
   go_wp2
   exact bodyPost_ret (v := .tuple #[.agg #[.string ⟨#[]⟩, .int .i64 0], .string ⟨#[]⟩, .bool false]) (by simp [results, Tryz.results46, go_sem]) rfl ⟨by rw [hO.out]; rfl, (Below.refl _ _).alloc (Nat.le_refl _) _⟩
def dEntry (l : List UInt8) : Option (En × List UInt8 × Bool) :=
 if (vtakeText l).2.2 ≠ 0 then none
 else if (l.drop (vtakeText l).2.1).length < 33 then none
 else some (⟨⟨(vtakeText l).1.toArray⟩, ((kByte (l.drop (vtakeText l).2.1) % 4 : Nat) : Int), decide (4 ≤ kByte (l.drop (vtakeText l).2.1)),
  ⟨((l.drop ((vtakeText l).2.1 + 1)).take 32).toArray⟩⟩, l.drop ((vtakeText l).2.1 + 33), decide (kByte (l.drop (vtakeText l).2.1) < 8))
theorem dEntry_full {e : En} (h : okEn e = true) (r : List UInt8) : dEntry (enB e ++ r) = some (e, r, true) := by
 obtain ⟨h1, h2, h3⟩ := okEn_iff.1 h
 have h31 := (nameB_iff.1 h1).2.1
 have hl : e.k.data.toList.length = 32 := by rw [← Lib.size_eq]; exact h2
 have e0 : enB e ++ r = vputText e.m.data.toList ++ (enK e :: (e.k.data.toList ++ r)) := by unfold enB; simp [List.append_assoc]
 have e3 : vtakeText (enB e ++ r) = (e.m.data.toList, (vputText e.m.data.toList).length, 0) := by rw [e0]; exact takeText_putText (by omega) _
 have e1 : (enB e ++ r).drop (vputText e.m.data.toList).length = enK e :: (e.k.data.toList ++ r) := by rw [e0, List.drop_left]
 have e4 : (enB e ++ r).drop ((vputText e.m.data.toList).length + 1) = e.k.data.toList ++ r := by rw [← List.drop_drop, e1]; rfl
 have e5 : (enB e ++ r).drop ((vputText e.m.data.toList).length + 33) = r := by
  rw [show (vputText e.m.data.toList).length + 33 = (vputText e.m.data.toList).length + 1 + 32 by omega, ← List.drop_drop, e4, ← hl, List.drop_left]
 unfold dEntry
 rw [e3]
 simp only [e1, e4, e5]
 rw [if_neg (by simp), if_neg (by simp; omega)]
 have hk : kByte (enK e :: (e.k.data.toList ++ r)) = e.kd.toNat + if e.x then 4 else 0 := by
  show (enK e).toNat = _
  unfold enK
  rw [UInt8.toNat_ofNat']
  rcases h3 with h | ⟨h, _⟩ <;> rw [h] <;> cases e.x <;> rfl
 rw [hk]
 refine congrArg some (Prod.ext (en_ext (by show (ByteArray.mk _) = e.m; cases e.m; rfl) ?_ ?_ (by show ByteArray.mk _ = e.k; rw [← hl, List.take_left])) (Prod.ext rfl ?_))
 ·rcases h3 with h | ⟨h, _⟩ <;> rw [h] <;> cases e.x <;> rfl
 ·rcases h3 with h | ⟨h, hx⟩
  ·rw [h]; cases e.x <;> rfl
  ·rw [h, hx]; rfl
 ·rcases h3 with h | ⟨h, hx⟩
  ·rw [h]; cases e.x <;> rfl
  ·rw [h, hx]; rfl
def rEntryV (o : Option (En × List UInt8 × Bool)) : Value := match o with
 | some x => .tuple #[.agg #[.string x.1.m, .int .i64 x.1.kd, .bool x.1.x, .string x.1.k], .string ⟨x.2.1.toArray⟩, .bool x.2.2]
 | none => .tuple #[.agg #[.string ⟨#[]⟩, .int .i64 0, .bool false, .string ⟨#[]⟩], .string ⟨#[]⟩, .bool false]
set_option maxRecDepth 100000 in
set_option maxHeartbeats 1000000 in
theorem rentry_any (S : ByteArray) (hS : S.size ≤ 1000000) (w : World) :
  Calls Tryz.prog 47 #[.string S] w fun e w' => e = .returned (rEntryV (dEntry S.data.toList)) ∧ Below w.heap.size w w' := by
 have hlen := Lib.size_eq S
 have T := Lib.hid (fun w => refTakeText_any S (by unfold maxLen; omega) w)
 obtain ⟨t, j, x, hv⟩ : ∃ n j x, vtakeText S.data.toList = (n, j, x) := ⟨_, _, _, rfl⟩
 rw [hv] at T
 by_cases hx : x = 0
 ·subst hx
  have hj := (putText_takeText hv).1
  rw [← hlen] at hj
  by_cases h33 : S.size < j + 33
  ·have hO : Hid (dEntry S.data.toList = none) := Lib.hid (by unfold dEntry; rw [hv, if_neg (by simp), if_pos (by rw [List.length_drop, ← hlen]; show S.size - j < 33; omega)])
   have q : decide ((S.size : Int) - (j : Int) < 33) = true := decide_eq_true (by omega)
   have hjb : j ≤ 1000000 := by omega
   clear hv h33 hlen
   go_enter Tryz.func47, Tryz.ntmps47
   go_wp2_with fail
   with_reducible refine (T.out _).mono ?_
   rintro e w1 ⟨rfl, hb1⟩
   subst hb1
   go_wp2
   exact bodyPost_ret (v := .tuple #[.agg #[.string ⟨#[]⟩, .int .i64 0, .bool false, .string ⟨#[]⟩], .string ⟨#[]⟩, .bool false]) (by simp [results, Tryz.results47, go_sem]) rfl ⟨by rw [hO.out]; rfl, (Below.refl _ _).alloc (Nat.le_refl _) _⟩
  ·have hjs : j < S.size := by omega
   obtain ⟨c, hc⟩ : ∃ c, c = S[j] := ⟨_, rfl⟩
   have hd : S.data.toList.drop j = c :: S.data.toList.drop (j + 1) := by
    rw [List.drop_eq_getElem_cons (by rw [← hlen]; exact hjs), hc]; congr 1
   obtain ⟨K, hK⟩ : ∃ K, K = S.extract (j + 1) (j + 33) := ⟨_, rfl⟩
   obtain ⟨Q, hQ⟩ : ∃ Q, Q = S.extract (j + 33) S.size := ⟨_, rfl⟩
   have hKl : K = ⟨((S.data.toList.drop (j + 1)).take 32).toArray⟩ := str_eq' (by rw [hK, Lib.extract_data, show j + 33 - (j + 1) = 32 by omega])
   have hQl : Hid (Q = ⟨(S.data.toList.drop (j + 33)).toArray⟩) := Lib.hid (str_eq' (by rw [hQ, drop_str]))
   have hs1 : ∀ W, Sem.run Tryz.prog (Instr.slice 9 (.string S) (some (.int .i64 ((j : Int) + 1))) (some (.int .i64 ((j : Int) + 1 + 32))) none) W = .ok (.string K) W := fun W => by
    have := run_slice_str (P := Tryz.prog) Tryz.underlying9 S ((j : Int) + 1) ((j : Int) + 1 + 32) (by omega) (by omega) (by omega) W
    rw [this, hK]; congr 3 <;> omega
   have hs2 : ∀ W, Sem.run Tryz.prog (Instr.slice 9 (.string S) (some (.int .i64 ((j : Int) + 1 + 32))) none none) W = .ok (.string Q) W := fun W => by
    have := run_slice_from (P := Tryz.prog) Tryz.underlying9 S (j + 33) (by omega) W
    rw [hQ, ← this]; congr 4
   have hO : Hid (dEntry S.data.toList = some (⟨⟨t.toArray⟩, ((c.toNat % 4 : Nat) : Int), decide (4 ≤ c.toNat), K⟩, S.data.toList.drop (j + 33), decide (c.toNat < 8))) := Lib.hid (by
    unfold dEntry; rw [hv, if_neg (by simp), if_neg (by rw [List.length_drop, ← hlen]; show ¬ S.size - j < 33; omega)]
    simp only [hd, hKl]; rfl)
   have q : decide ((S.size : Int) - (j : Int) < 33) = false := decide_eq_false (by omega)
   have hjb : j ≤ 1000000 := by omega
   have hcl := c.toNat_lt
   have q8 : decide (c.toNat < 8) = decide ((c.toNat : Int) < 8) := decide_eq_decide.2 (by omega)
   have q4 : decide (4 ≤ c.toNat) = decide ((4 : Int) ≤ (c.toNat : Int)) := decide_eq_decide.2 (by omega)
   have hmod : ((c.toNat % 4 : Nat) : Int) = (c.toNat : Int) % 4 := by omega
   rw [q8, q4, hmod] at hO
   have hci : S[j] = c := hc.symm
   clear hv h33 hlen hd hK hQ hKl q8 q4 hmod hc
   go_enter Tryz.func47, Tryz.ntmps47
   go_wp2_with fail
   with_reducible refine (T.out _).mono ?_
   rintro e w1 ⟨rfl, hb1⟩
   subst hb1
   go_wp2_with fail
   go_region
   go_wp2
   exact bodyPost_ret (v := .tuple #[.agg #[.string ⟨t.toArray⟩, .int .i64 ((c.toNat : Int) % 4), .bool (decide ((4 : Int) ≤ (c.toNat : Int))), .string K], .string Q, .bool (decide ((c.toNat : Int) < 8))]) (by simp [results, Tryz.results47, go_sem]) rfl ⟨by rw [hO.out, hQl.out]; rfl, (((Below.refl _ _).alloc (Nat.le_refl _) _).alloc (by simp) _).drew⟩
 ·have hO : Hid (dEntry S.data.toList = none) := Lib.hid (by unfold dEntry; rw [hv, if_pos hx])
  have q2 : ((x : Int) != 0) = true := in_t (by omega)
  clear hv hx hlen
  go_enter Tryz.func47, Tryz.ntmps47
  go_wp2_with fail
  with_reducible refine (T.out _).mono ?_
  rintro e w1 ⟨rfl, hb1⟩
  subst hb1
  go_wp2
  exact bodyPost_ret (v := .tuple #[.agg #[.string ⟨#[]⟩, .int .i64 0, .bool false, .string ⟨#[]⟩], .string ⟨#[]⟩, .bool false]) (by simp [results, Tryz.results47, go_sem]) rfl ⟨by rw [hO.out]; rfl, (Below.refl _ _).alloc (Nat.le_refl _) _⟩
end Go.Proofs.YtokknppjeckppaaGreatDoor

/-
  Contracts over this translation: a keeper's put.
-/
import Derived.Test.YtelaamchafocpaaDoorYTil
import Derived.Test.YtelaamchafocpaaDoorYTio
import Derived.Test.YtelaamchafocpaaDoorYTip
set_option linter.unusedVariables false
namespace Go.Proofs.YtelaamchafocpaaDoor
open Go.RowKit Go.Shelf
attribute [local go_sem] Oper.semAt_some

/-- All below B stays. -/
structure HeldB (B : Nat) (W0 w : World) : Prop where
  below : Below B W0 w
  le : B ≤ W0.heap.size
theorem HeldB.size {B : Nat} {W0 w : World} (h : HeldB B W0 w) : B ≤ w.heap.size := Nat.le_trans h.le h.below.size
theorem HeldB.on {B : Nat} {W0 w w' : World} (h : HeldB B W0 w) (hb : Below w.heap.size w w') : HeldB B W0 w' := ⟨h.below.trans (hb.mono h.size), h.le⟩
theorem HeldB.onB {B : Nat} {W0 w w' : World} (h : HeldB B W0 w) (hb : Below B w w') : HeldB B W0 w' := ⟨h.below.trans hb, h.le⟩
/-- A slice of one item in a new block. -/
def OneI (S : Nat) (w : World) (v : Value) (x : It) : Prop := ∃ A, v = .slice (some ⟨A, 0, none⟩) 1 1 ∧ S ≤ A ∧ w.heap[A]? = some (.cells #[.string x.p, .bool x.d, .bool x.e, .string x.c] 27 (0, 0))
theorem OneI.stays {S : Nat} {w w' : World} {v : Value} {x : It} (h : OneI S w v x) (hb : Below w.heap.size w w') : OneI S w' v x := by
  obtain ⟨A, h1, h2, h3⟩ := h
  exact ⟨A, h1, h2, (hb.block A (Array.getElem?_eq_some_iff.1 h3).1).trans h3⟩
theorem oneI_new (w : World) (S : Nat) (hS : S ≤ w.heap.size) (x : It) : OneI S (w.alloc (.cells #[.string x.p, .bool x.d, .bool x.e, .string x.c] 27)) (.slice (some ⟨w.heap.size, 0, none⟩) 1 1) x :=
  ⟨_, rfl, hS, heap_alloc_new w _⟩
theorem wp_build_item {o : Oper} {a : Act} {K : Act → World → Prop} {Q : Exit → Act → World → Prop} {w : World} (ho : o.op = .buildSlice 22 1 #[(0, .tmp 38)]) {x : It}
    (hx : a.eval (.tmp 38) = itV x) (hk : K (a.put o.dst (.slice (some ⟨w.heap.size, 0, none⟩) 1 1)) (w.alloc (.cells #[.string x.p, .bool x.d, .bool x.e, .string x.c] 27))) : o.wp Tryd.prog a w K Q := by
  refine wp_value (v := .slice (some ⟨w.heap.size, 0, none⟩) 1 1) (w' := w.alloc (.cells #[.string x.p, .bool x.d, .bool x.e, .string x.c] 27)) ?_ hk
  have f : a.tmps[38]?.getD undef = itV x := by
    have h : a.tmps.getD 38 undef = itV x := hx
    rwa [Array.getD_eq_getD_getElem?] at h
  unfold execOp
  rw [ho]
  go_simp
theorem kept_store {B kb : Nat} {w : World} {vs u : Value} {M : List It} (hrow : w.heap[kb]? = some (.cells #[vs] 47 (0, 0))) (ho : OwnI B w u M) (hkb : B ≤ kb) : Kept B kb (w.setCell ⟨kb, 0, none⟩ u) u M := by
  have hne : u.ownBlock ≠ some kb := fun e => by
    rcases ho.2 with ⟨rfl, _⟩ | ⟨g, cap, cur, rfl, _, hg, _⟩
    · cases e
    · cases e
      rw [hrow] at hg; cases hg
  refine ⟨?_, World.ownsRow.kept ho (grownBy_setCellI w _ u) (.inr hne), hkb⟩
  rw [setCell_eq_setRow w kb 0 _ _ (0, 0) u hrow, setRow_heap w kb _ _ _ (0, 0) hrow]
  rfl
theorem wp_store_keeper {o : Oper} {a : Act} {K : Act → World → Prop} {Q : Exit → Act → World → Prop} {w : World} {p q : Nat} (ho : o.op = .store 45 (.tmp p) (.tmp q)) {B kb : Nat} {vs : Value} {M : List It}
    (hx : a.eval (.tmp p) = .pointer (some ⟨kb, 0, none⟩)) (hu : OwnI B w (a.eval (.tmp q)) M) (hrow : w.heap[kb]? = some (.cells #[vs] 47 (0, 0))) (hkb : B ≤ kb)
    (h : ∀ w', Kept B kb w' (a.eval (.tmp q)) M → Below B w w' → K (a.put o.dst undef) w') : o.wp Tryd.prog a w K Q := by
  have hc : w.cell? ⟨kb, 0, none⟩ = some vs := by simp [World.cell?, hrow]
  have hf : w.frozen? ⟨kb, 0, none⟩ = false := by simp [World.frozen?, hrow]
  have hk := kept_store hrow hu hkb
  obtain ⟨u, hue⟩ : ∃ u, u = a.eval (.tmp q) := ⟨_, rfl⟩
  rw [← hue] at hu hk h
  have hlit : ∃ ad n c, u = .slice ad n c := by
    rcases hu.2 with ⟨rfl, _⟩ | ⟨g, cap, cur, rfl, _⟩
    · exact ⟨_, _, _, rfl⟩
    · exact ⟨_, _, _, rfl⟩
  obtain ⟨ad, n, c, rfl⟩ := hlit
  refine wp_skip (w' := w.setCell ⟨kb, 0, none⟩ (.slice ad n c)) ?_ (h _ hk ((Below.refl _ _).setCell (p := ⟨kb, 0, none⟩) hkb _))
  unfold execOp
  rw [ho]
  have hue' := hue.symm
  simp only [hx, hue']
  clear hue hue' hk h hu
  go_simp

/-- What is said of each operation of a region of keeper.put. -/
def tpuU (W4 : World) (B kb B1 : Nat) (vs : Value) (L M : List It) (x : It) (i : Nat) : Nat → Value → Value → World → Prop
  | 0 => fun v _ _ => v = .pointer (some ⟨kb, 0, none⟩)
  | 1 => fun v _ _ => v = .pointer (some ⟨kb, 0, none⟩)
  | 2 => fun v _ _ => v = .pointer (some ⟨kb, 0, none⟩)
  | 3 => fun v _ _ => v = .pointer (some ⟨kb, 0, none⟩)
  | 4 => fun v _ _ => v = vs
  | 5 => fun v _ _ => v = .int .i64 i
  | 6 => fun v _ _ => v = itV x
  | 7 => fun v _ w => OneI W4.heap.size w v x
  | 8 => fun v _ w => OwnI B w v M
  | 9 => fun v _ _ => v = .pointer (some ⟨kb, 0, none⟩)
  | 10 => fun v _ _ => v = .pointer (some ⟨kb, 0, none⟩)
  | 11 => fun _ _ w => ∃ u, Kept B kb w u M
  | 12 => fun _ _ w => OwnI B w vs L ∧ ∀ j, vs.ownBlock = some j → j < W4.heap.size
  | 13 => fun _ _ w => w.heap[kb]? = some (.cells #[vs] 47 (0, 0)) ∧ vs.ownBlock ≠ some kb
  | 14 => fun _ _ w => InBox w B1 x
  | _ => fun _ _ _ => True
def tpuN : List (List Nat) := [[], [], [1], [2], [3, 13], [], [14], [6], [4, 5, 7, 12], [0], [9], [10, 8, 13]]
def tpuE : Nat → Option Tmp
  | _ => none
def tpuB : List (Nat × Nat) := [(8, 7), (8, 11), (8, 12), (8, 14), (11, 7), (11, 8), (11, 12), (11, 13), (11, 14)]
theorem tpu_T (W4 : World) (B kb B1 : Nat) (vs : Value) (L M : List It) (x : It) (i : Nat) (ix kx : Nat) (v e : Value) (w w' : World) (hk : kx < 15) (hne : kx ≠ ix) (hbd : (ix, kx) ∉ tpuB) (hU : (tpuU W4 B kb B1 vs L M x i) kx v e w) (hT : (appTs [8, 11] (fun j w w' => j = 8 → w.grownBy w' vs.ownBlock)) ix w w') : (tpuU W4 B kb B1 vs L M x i) kx v e w' := by
  by_cases hi8 : ix = 8
  · subst hi8
    have hR := appTs_in (by decide) hT
    rcases (show kx = 0 ∨ kx = 1 ∨ kx = 2 ∨ kx = 3 ∨ kx = 4 ∨ kx = 5 ∨ kx = 6 ∨ kx = 7 ∨ kx = 8 ∨ kx = 9 ∨ kx = 10 ∨ kx = 11 ∨ kx = 12 ∨ kx = 13 ∨ kx = 14 by omega) with rfl | rfl | rfl | rfl | rfl | rfl | rfl | rfl | rfl | rfl | rfl | rfl | rfl | rfl | rfl
    · exact hU
    · exact hU
    · exact hU
    · exact hU
    · exact hU
    · exact hU
    · exact hU
    · exact absurd (by decide) hbd
    · exact absurd rfl hne
    · exact hU
    · exact hU
    · exact absurd (by decide) hbd
    · exact absurd (by decide) hbd
    · exact ⟨((hR rfl).block kb (Array.getElem?_eq_some_iff.1 hU.1).1 (fun e => hU.2 e.symm)).trans hU.1, hU.2⟩
    · exact absurd (by decide) hbd
  by_cases hi11 : ix = 11
  · subst hi11
    have hR := appTs_in (by decide) hT
    rcases (show kx = 0 ∨ kx = 1 ∨ kx = 2 ∨ kx = 3 ∨ kx = 4 ∨ kx = 5 ∨ kx = 6 ∨ kx = 7 ∨ kx = 8 ∨ kx = 9 ∨ kx = 10 ∨ kx = 11 ∨ kx = 12 ∨ kx = 13 ∨ kx = 14 by omega) with rfl | rfl | rfl | rfl | rfl | rfl | rfl | rfl | rfl | rfl | rfl | rfl | rfl | rfl | rfl
    · exact hU
    · exact hU
    · exact hU
    · exact hU
    · exact hU
    · exact hU
    · exact hU
    · exact absurd (by decide) hbd
    · exact absurd (by decide) hbd
    · exact hU
    · exact hU
    · exact absurd rfl hne
    · exact absurd (by decide) hbd
    · exact absurd (by decide) hbd
    · exact absurd (by decide) hbd
  have hi : ix ∉ [8, 11] := by simp [hi8, hi11]
  have hb : Below w.heap.size w w' := appTs_out hi hT
  rcases (show kx = 0 ∨ kx = 1 ∨ kx = 2 ∨ kx = 3 ∨ kx = 4 ∨ kx = 5 ∨ kx = 6 ∨ kx = 7 ∨ kx = 8 ∨ kx = 9 ∨ kx = 10 ∨ kx = 11 ∨ kx = 12 ∨ kx = 13 ∨ kx = 14 by omega) with rfl | rfl | rfl | rfl | rfl | rfl | rfl | rfl | rfl | rfl | rfl | rfl | rfl | rfl | rfl
  · exact hU
  · exact hU
  · exact hU
  · exact hU
  · exact hU
  · exact hU
  · exact hU
  · exact OneI.stays hU hb
  · exact OwnI.stays hU hb
  · exact hU
  · exact hU
  · exact (by obtain ⟨u, hu⟩ := hU; exact ⟨u, hu.stays hb⟩)
  · exact ⟨OwnI.stays hU.1 hb, hU.2⟩
  · exact ⟨(hb.block kb (Array.getElem?_eq_some_iff.1 hU.1).1).trans hU.1, hU.2⟩
  · exact InBox.stays hU hb

set_option maxRecDepth 100000 in
set_option maxHeartbeats 8000000 in
theorem kPut_any (B kb : Nat) (vs : Value) (L : List It) (x : It) (w : World) (hk : Kept B kb w vs L) (hB : B ≤ w.heap.size) (hr : Rise L) (hf : fewB L = true) (hx : x.p.size ≤ 400) (hxc : x.c.size ≤ 40000) :
    Calls Tryd.prog 25 #[.pointer (some ⟨kb, 0, none⟩), itV x] w fun e w' => e = .returned (.int .i64 (wrongT L x)) ∧ ∃ u, Kept B kb w' u (putT L x) ∧ Below B w w' := by
  have h70 := few_len hf
  have HK := Lib.hid hk
  have WR := Lib.hid (fun w hc hi => pWrong_any kb vs L x w hc hi hr hf hx hxc)
  have PL := Lib.hid (fun w hi => pPlace_any vs L x.p w hi hr hf hx)
  rw [show x.p.data.toList = x.t from rfl] at PL
  have HNO := Lib.hid (put_no (L := L) (x := x))
  have HYES := Lib.hid (put_yes (L := L) (x := x))
  have HFA := Lib.hid (find_at hr x.t)
  have HWS := Lib.hid (fun (h : cntT L x.t < L.length) h0 => withT_set hr rfl h h0)
  have HWI := Lib.hid (fun h0 => withT_insert (L := L) (x := x) hr h0)
  have hcl := cnt_le L x.t
  obtain ⟨n, hn⟩ : ∃ n, n = wrongT L x := ⟨_, rfl⟩
  rw [← hn] at WR HNO HYES ⊢
  have HN := Lib.hid hn
  clear hn hk hf hr
  have hlt0 := (Array.getElem?_eq_some_iff.1 HK.out.row).1
  go_enter Tryd.func25, Tryd.ntmps25
  go_wp2_with fail
  have hb0 := (Below.refl w.heap.size w).alloc (Nat.le_refl _) (.cells #[.string x.p, .bool x.d, .bool x.e, .string x.c] 27)
  have HX1 := Lib.hid (inBox_new w x 27)
  have HB1 := Lib.hid (hb0.mono hB)
  have HK1 := Lib.hid (HK.out.stays hb0)
  have hB1 : B ≤ (w.alloc (.cells #[.string x.p, .bool x.d, .bool x.e, .string x.c] 27)).heap.size := Nat.le_trans hB hb0.size
  generalize w.alloc (.cells #[.string x.p, .bool x.d, .bool x.e, .string x.c] 27) = W1 at hb0 HX1 HB1 HK1 hB1 ⊢
  generalize w.heap.size = B1 at HX1 ⊢
  clear hb0 HK hlt0
  refine (WR.out _ HK1.out.cell HK1.out.own.items).mono ?_
  rintro e w2 ⟨rfl, hb⟩
  have HX2 := Lib.hid (HX1.out.stays hb)
  have HB2 := Lib.hid (HB1.out.trans (hb.mono hB1))
  have HK2 := Lib.hid (HK1.out.stays hb)
  have hB2 : B ≤ w2.heap.size := Nat.le_trans hB1 hb.size
  clear hb HX1 HB1 HK1 hB1 WR
  by_cases h0 : n = 0
  · have g0 : ((n : Int) == 0) = true := beq_iff_eq.2 (by omega)
    have g1 : ((n : Int) != 0) = false := by rw [bne, g0]; rfl
    have HV := Lib.hid h0
    have HPT := Lib.hid (HYES.out h0)
    clear h0 HNO HYES
    obtain ⟨d0, d1, d2, d3⟩ := HX2.out.cells
    have c0 := HK2.out.cell
    have k0 := fun d os => cell_regrown d0 d os
    have k1 := fun d os => cell_regrown c0 d os
    go_wp2_with fail
    refine wp_region_quiet_below (by kernel_rfl) (by kernel_rfl) ?_
    repeat (first | go_big_quiet_step ((exact Calls.regrown_of (PL.out _ (HK2.out.own.items.stays (below_regrown _ _ _))))) | quiet_step ((exact Calls.regrown_of (PL.out _ (HK2.out.own.items.stays (below_regrown _ _ _))))))
    refine wpQuiet_nil ?_
    intro wq hwq
    have hbq : Below w2.heap.size w2 wq := by obtain ⟨p, rfl⟩ := hwq; exact below_regrown _ _ _
    have HX3 := Lib.hid (HX2.out.stays hbq)
    have HB3 := Lib.hid (HB2.out.trans (hbq.mono hB2))
    have HK3 := Lib.hid (HK2.out.stays hbq)
    have hB3 : B ≤ wq.heap.size := Nat.le_trans hB2 hbq.size
    clear hwq hbq k0 k1 c0 d0 d1 d2 d3 HX2 HB2 HK2 hB2 PL g0 g1
    have hF := HFA.out
    rcases hF with ⟨hc, ho, hfd⟩ | ⟨hfd, ho⟩
    · have hsome : (findT L x.t).isSome = true := by rw [hfd]; rfl
      rw [hsome]
      have HPUT : Hid (putT L x = L.set (cntT L x.t) x) := show _ = _ by rw [HPT.out]; exact HWS.out hc ho
      clear hfd hsome ho HWI
      obtain ⟨i, hi⟩ : ∃ i, i = cntT L x.t := ⟨_, rfl⟩
      rw [← hi] at HPUT hc ⊢
      clear hi hcl
      have hown := HK3.out.own
      rcases hown.2 with ⟨_, h0⟩ | ⟨g, cap, cur, hvs, _⟩
      · omega
      · have HVS := Lib.hid hvs
        obtain ⟨d0, d1, d2, d3⟩ := HX3.out.cells
        have c0 := HK3.out.cell
        have hO := hown
        rw [hvs] at hO c0
        have HO := Lib.hid hO
        have hbk : decide ((i : Int) < (L.length : Int)) = true := decide_eq_true (by omega)
        have hmm : L.length ≤ 9223372036854775807 := by omega
        clear hvs hown hO
        go_wp2_with fail
        go_still_tail 7, (by kernel_rfl)
        change wpList _ _ _ _ _ wq.drew
        have HOd : Hid (OwnI B wq.drew (.slice (some ⟨g, 0, none⟩) L.length cap) L) := HO.out.stays (Below.refl _ _).drew
        have HKd : Hid (Kept B kb wq.drew vs L) := HK3.out.stays (Below.refl _ _).drew
        go_wp2_with (refine wpList_store_it (o := ⟨none, _, _, _, _, _⟩) rfl rfl (.tmp 31) (.tmp 30) rfl HOd.out hc rfl rfl ?_)
        intro w5 hown5 hg5
        have HK5 : Hid (Kept B kb w5 vs (L.set i x)) := HKd.out.grown (by rw [HVS.out]; exact hg5) (by rw [HVS.out]; exact hown5)
        have HB5 : Hid (Below B w w5) := HB3.out.trans ((Below.refl _ wq).drew.trans (Kept.below HOd.out hg5 hB3))
        clear hown5 hg5
        go_wp2
        go_ret
        exact ⟨by rw [HV.out]; rfl, vs, by rw [HPUT.out]; exact HK5.out, HB5.out⟩
    · have hsome : (findT L x.t).isSome = false := by rw [hfd]; rfl
      rw [hsome]
      have HPUT : Hid (putT L x = L.take (cntT L x.t) ++ x :: L.drop (cntT L x.t)) := show _ = _ by rw [HPT.out]; exact HWI.out ho
      clear hfd hsome ho HWS
      obtain ⟨i, hi⟩ : ∃ i, i = cntT L x.t := ⟨_, rfl⟩
      rw [← hi] at HPUT hcl ⊢
      clear hi
      have INS := Lib.hid (fun A w hown hB hx hne => pInsert_any B vs L i A x w hown hcl (by omega) hB hx hne)
      obtain ⟨M, hM⟩ : ∃ M, M = L.take i ++ x :: L.drop i := ⟨_, rfl⟩
      rw [← hM] at HPUT INS
      clear hM
      generalize wq = W4 at HX3 HB3 HK3 hB3 ⊢
      have HX := HX3; have HKP := HK3; have HB0 := HB3
      have HBW : Hid (B ≤ W4.heap.size) := hB3
      have HOL : Hid (∀ j, vs.ownBlock = some j → j < W4.heap.size) := fun j hj => (World.ownsRow.lt HKP.out.own j hj).2
      clear HX3 HK3 HB3 hB3
      go_wp2_with fail
      refine wp_region_wordsG (by kernel_rfl) (by kernel_rfl) (appTs [8, 11] (fun j w w' => j = 8 → w.grownBy w' vs.ownBlock)) (HeldB B W4) tpuE (tpuU W4 B kb B1 vs L M x i) 15 tpuN [11] (by kernel_rfl) (by kernel_rfl) (by kernel_rfl)
        tpuB (by kernel_rfl) (fun ix kx v e w w' hi hk hne hb hU hT => tpu_T _ _ _ _ _ _ _ _ _  ix kx v e w w' hk hne hb hU hT) (by decide) ⟨(Below.refl _ _).drew, HBW.out⟩ (fun kx hk hge => ?hv0)
        [32, 33, 34, 35, 36, 37, 38, 39, 40, 41, 42] (by kernel_rfl) (forall_ops ?steps) ?behind
      case hv0 =>
        have hge' : 12 ≤ kx := hge
        rcases (show kx = 12 ∨ kx = 13 ∨ kx = 14 by omega) with rfl | rfl | rfl
        · exact ⟨HKP.out.own.stays (Below.refl _ _).drew, HOL.out⟩
        · exact ⟨HKP.out.row, HKP.out.apart⟩
        · exact HX.out.stays (Below.refl _ _).drew
      case steps =>
        refine ⟨?_, ?_, ?_, ?_, ?_, ?_, ?_, ?_, ?_, ?_, ?_, ?_, trivial⟩
        · refine stepG_of rfl ?_
          exact stepR_value (t := 32) (.pointer (some ⟨kb, 0, none⟩)) rfl (fun _ => appTs_other (by decide) (Below.refl _ _)) (fun ac w hG hN hO => by
            have e0 : slot ac 0 = .pointer (some ⟨kb, 0, none⟩) := hO 0 (by kernel_rfl)
            exact run_move_slot (.inl rfl) e0) (fun ac w hG hN => rfl)
        · refine stepG_of rfl ?_
          exact stepR_value (t := 33) (.pointer (some ⟨kb, 0, none⟩)) rfl (fun _ => appTs_other (by decide) (Below.refl _ _)) (fun ac w hG hN hO => by
            have e0 : slot ac 0 = .pointer (some ⟨kb, 0, none⟩) := hO 0 (by kernel_rfl)
            exact run_move_slot (.inl rfl) e0) (fun ac w hG hN => rfl)
        · refine stepG_of rfl ?_
          exact stepR_value (t := 34) (.pointer (some ⟨kb, 0, none⟩)) rfl (fun _ => appTs_other (by decide) (Below.refl _ _)) (fun ac w hG hN hO => by
            have e33 : slot ac 33 = .pointer (some ⟨kb, 0, none⟩) := hN 1 (by decide)
            have f33 := slot_at e33
            unfold execOp; go_simp) (fun ac w hG hN => rfl)
        · refine stepG_of rfl ?_
          exact stepR_value (t := 35) (.pointer (some ⟨kb, 0, none⟩)) rfl (fun _ => appTs_other (by decide) (Below.refl _ _)) (fun ac w hG hN hO => by
            have e34 : slot ac 34 = .pointer (some ⟨kb, 0, none⟩) := hN 2 (by decide)
            have f34 := slot_at e34
            unfold execOp; go_simp) (fun ac w hG hN => rfl)
        · refine stepG_of rfl ?_
          exact stepR_value (t := 36) vs rfl (fun _ => appTs_other (by decide) (Below.refl _ _)) (fun ac w hG hN hO => by
            have e35 : slot ac 35 = .pointer (some ⟨kb, 0, none⟩) := hN 3 (by decide)
            have h13 : w.heap[kb]? = some (.cells #[vs] 47 (0, 0)) ∧ vs.ownBlock ≠ some kb := hN 13 (by decide)
            have q1 : w.cell? ⟨kb, 0, none⟩ = some vs := by simp [World.cell?, h13.1]
            clear h13
            have f35 := slot_at e35
            unfold execOp; go_simp) (fun ac w hG hN => rfl)
        · refine stepG_of rfl ?_
          exact stepR_value (t := 37) (.int .i64 i) rfl (fun _ => appTs_other (by decide) (Below.refl _ _)) (fun ac w hG hN hO => by
            have e6 : slot ac 6 = .int .i64 i := hO 6 (by kernel_rfl)
            exact run_move_slot (.inl rfl) e6) (fun ac w hG hN => rfl)
        · refine stepG_of rfl ?_
          exact stepR_value (t := 38) (itV x) rfl (fun _ => appTs_other (by decide) (Below.refl _ _)) (fun ac w hG hN hO => by
            have e3 : slot ac 3 = .pointer (some ⟨B1, 0, none⟩) := hO 3 (by kernel_rfl)
            have h14 : InBox w B1 x := hN 14 (by decide)
            obtain ⟨c0, c1, c2, c3⟩ := h14.cells
            clear h14
            have f3 := slot_at e3
            unfold execOp; go_simp) (fun ac w hG hN => rfl)
        · refine stepG_of rfl ?_
          intro ac w hG hN hO
          have e38 : slot ac 38 = itV x := hN 6 (by decide)
          refine wp_build_item rfl (slotE e38) ?_
          exact ⟨_, rfl, appTs_other (by decide) ((Below.refl _ _).alloc (Nat.le_refl _) _), hG.on ((Below.refl _ _).alloc (Nat.le_refl _) _), oneI_new w _ hG.below.size x⟩
        · refine stepG_of rfl ?_
          intro ac w hG hN hO
          have e36 : slot ac 36 = vs := hN 4 (by decide)
          have e37 : slot ac 37 = .int .i64 i := hN 5 (by decide)
          have e39 : OneI W4.heap.size w (slot ac 39) x := hN 7 (by decide)
          have h12 : OwnI B w vs L ∧ ∀ j, vs.ownBlock = some j → j < W4.heap.size := hN 12 (by decide)
          obtain ⟨A, hA, hAB, hrow⟩ := e39
          refine wp_callx 42 _ _ rfl (enters_of Tryd.func42 (by kernel_rfl) rfl) #[vs, .int .i64 i, .slice (some ⟨A, 0, none⟩) 1 1] (by simp [eval_slot, e36, e37, hA]) (INS.out A w h12.1 (hG.size) hrow (fun e => by have := h12.2 A e; omega)) ?_
          rintro u w'' ⟨hown, hg⟩
          exact ⟨u, rfl, appTs_at (by decide) (fun _ => hg), hG.onB (Kept.below h12.1 hg hG.size), hown⟩
        · refine stepG_of rfl ?_
          exact stepR_value (t := 41) (.pointer (some ⟨kb, 0, none⟩)) rfl (fun _ => appTs_other (by decide) (Below.refl _ _)) (fun ac w hG hN hO => by
            have e32 : slot ac 32 = .pointer (some ⟨kb, 0, none⟩) := hN 0 (by decide)
            have f32 := slot_at e32
            unfold execOp; go_simp) (fun ac w hG hN => rfl)
        · refine stepG_of rfl ?_
          exact stepR_value (t := 42) (.pointer (some ⟨kb, 0, none⟩)) rfl (fun _ => appTs_other (by decide) (Below.refl _ _)) (fun ac w hG hN hO => by
            have e41 : slot ac 41 = .pointer (some ⟨kb, 0, none⟩) := hN 9 (by decide)
            have f41 := slot_at e41
            unfold execOp; go_simp) (fun ac w hG hN => rfl)
        · refine stepG_of rfl ?_
          intro ac w hG hN hO
          have e42 : slot ac 42 = .pointer (some ⟨kb, 0, none⟩) := hN 10 (by decide)
          have e40 : OwnI B w (slot ac 40) M := hN 8 (by decide)
          have h13 : w.heap[kb]? = some (.cells #[vs] 47 (0, 0)) ∧ vs.ownBlock ≠ some kb := hN 13 (by decide)
          refine wp_store_keeper rfl (slotE e42) e40 h13.1 HKP.out.from_ ?_
          intro w' hk hb
          exact ⟨_, rfl, appTs_at (by decide) (fun e => absurd e (by decide)), hG.onB hb, ⟨_, hk⟩⟩
      case behind =>
        intro ac w5 hG hV hS ha
        have h11 : ∃ u, Kept B kb w5 u M := hV 11 (by decide) (by decide)
        generalize slot ac = sl at ha 
        subst ha
        simp only [patchL, List.contains_cons, List.contains_nil, Nat.reduceBEq, Bool.or_false, Bool.or_true, if_true, Bool.false_eq_true, if_false, Nat.reduceAdd]
        generalize sl 32 = s32
        generalize sl 33 = s33
        generalize sl 34 = s34
        generalize sl 35 = s35
        generalize sl 36 = s36
        generalize sl 37 = s37
        generalize sl 38 = s38
        generalize sl 39 = s39
        generalize sl 40 = s40
        generalize sl 41 = s41
        generalize sl 42 = s42
        clear hV hS
        obtain ⟨u9, hk9⟩ := h11
        have HB9 := Lib.hid hG.below
        have HK9 := Lib.hid hk9
        clear hG hk9
        go_wp2
        go_ret
        exact ⟨by rw [HV.out]; rfl, u9, by rw [HPUT.out]; exact HK9.out, HB0.out.trans HB9.out⟩
  · have g0 : ((n : Int) == 0) = false := beq_eq_false_iff_ne.2 (by omega)
    have g1 : ((n : Int) != 0) = true := by rw [bne, g0]; rfl
    have HPUT := Lib.hid (HNO.out h0)
    clear h0 HNO HYES
    go_wp2
    go_ret
    exact ⟨rfl, vs, by rw [HPUT.out]; exact HK2.out, HB2.out⟩
end Go.Proofs.YtelaamchafocpaaDoor

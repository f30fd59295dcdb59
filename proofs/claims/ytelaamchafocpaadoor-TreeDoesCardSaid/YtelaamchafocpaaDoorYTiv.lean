/-
  Contracts over this translation: a keeper's drop.
-/
import Derived.Test.YtelaamchafocpaaDoorYTiq
import Derived.Test.YtelaamchafocpaaDoorYTiu
set_option linter.unusedVariables false
namespace Go.Proofs.YtelaamchafocpaaDoor
open Go.RowKit Go.Shelf
attribute [local go_sem] Oper.semAt_some

/-- What is said of each operation of a region of keeper.drop. -/
def tdrU (W4 : World) (kb B1 : Nat) (vs : Value) (s : ByteArray) (o : It) (q : Bool) : Nat → Value → Value → World → Prop
  | 0 => fun v _ _ => v = .pointer (some ⟨kb, 0, none⟩)
  | 1 => fun v _ _ => v = .pointer (some ⟨kb, 0, none⟩)
  | 2 => fun v _ _ => v = .pointer (some ⟨kb, 0, none⟩)
  | 3 => fun v _ _ => v = vs
  | 4 => fun v _ _ => v = .string s
  | 5 => fun v _ _ => v = (.tuple #[itV o, .bool q])
  | 6 => fun v _ _ => v = (.tuple #[itV o, .bool q])
  | 7 => fun v _ _ => v = itV o
  | 8 => fun v _ _ => v = .bool q
  | 9 => fun v _ w => FreshI W4.heap.size w v
  | 10 => fun _ e w => BoxI W4.heap.size w e o
  | 11 => fun v _ _ => v = .bool q
  | _ => fun _ _ _ => True
def tdrN : List (List Nat) := [[], [0], [1], [2], [], [3, 4], [5], [6], [6], [], [9, 7], [8]]
def tdrE : Nat → Option Tmp
  | 10 => some 5
  | _ => none
def tdrB : List (Nat × Nat) := [(10, 9)]
theorem tdr_T (W4 : World) (kb B1 : Nat) (vs : Value) (s : ByteArray) (o : It) (q : Bool) (ix kx : Nat) (v e : Value) (w w' : World) (hk : kx < 12) (hne : kx ≠ ix) (hbd : (ix, kx) ∉ tdrB) (hU : (tdrU W4 kb B1 vs s o q) kx v e w) (hT : (appT 10 (Below W4.heap.size)) ix w w') : (tdrU W4 kb B1 vs s o q) kx v e w' := by
  by_cases hi10 : ix = 10
  · subst hi10
    have hR := appT_in hT
    rcases (show kx = 0 ∨ kx = 1 ∨ kx = 2 ∨ kx = 3 ∨ kx = 4 ∨ kx = 5 ∨ kx = 6 ∨ kx = 7 ∨ kx = 8 ∨ kx = 9 ∨ kx = 10 ∨ kx = 11 by omega) with rfl | rfl | rfl | rfl | rfl | rfl | rfl | rfl | rfl | rfl | rfl | rfl
    · exact hU
    · exact hU
    · exact hU
    · exact hU
    · exact hU
    · exact hU
    · exact hU
    · exact hU
    · exact hU
    · exact absurd (by decide) hbd
    · exact absurd rfl hne
    · exact hU
  have hb : Below w.heap.size w w' := appT_out hi10 hT
  rcases (show kx = 0 ∨ kx = 1 ∨ kx = 2 ∨ kx = 3 ∨ kx = 4 ∨ kx = 5 ∨ kx = 6 ∨ kx = 7 ∨ kx = 8 ∨ kx = 9 ∨ kx = 10 ∨ kx = 11 by omega) with rfl | rfl | rfl | rfl | rfl | rfl | rfl | rfl | rfl | rfl | rfl | rfl
  · exact hU
  · exact hU
  · exact hU
  · exact hU
  · exact hU
  · exact hU
  · exact hU
  · exact hU
  · exact hU
  · exact FreshI.stays hU hb
  · exact BoxI.stays hU hb
  · exact hU

set_option maxRecDepth 100000 in
set_option maxHeartbeats 8000000 in
theorem kDrop_any (B kb : Nat) (vs : Value) (L : List It) (s : ByteArray) (w : World) (hk : Kept B kb w vs L) (hB : B ≤ w.heap.size) (hr : Rise L) (hf : fewB L = true) (hs : s.size ≤ 400) :
    Calls Tryd.prog 38 #[.pointer (some ⟨kb, 0, none⟩), .string s] w fun e w' => e = .returned (.int .i64 (if (findT L s.data.toList).isSome then 0 else 5)) ∧ ∃ u, Kept B kb w' u (goneT L s.data.toList) ∧ Below B w w' := by
  have HK := Lib.hid hk
  have HF := Lib.hid hf
  have F2 := Lib.hid (fun w hi => pFind_any vs L s w hi hr hf hs)
  obtain ⟨t, ht⟩ : ∃ t, t = s.data.toList := ⟨_, rfl⟩
  have HT := Lib.hid ht
  rw [← ht] at F2 ⊢
  clear ht
  obtain ⟨o, ho⟩ : ∃ o, o = foundI L t := ⟨_, rfl⟩
  obtain ⟨q, hq⟩ : ∃ q, q = (findT L t).isSome := ⟨_, rfl⟩
  have HQ := Lib.hid hq
  rw [← ho, ← hq] at F2
  rw [← hq]
  clear ho hq hk hf hr
  have hb0 := (Below.refl w.heap.size w).alloc (Nat.le_refl _) (.cells #[.string s] 9)
  have HB1 := Lib.hid (hb0.mono hB)
  have HK1 := Lib.hid (HK.out.stays hb0)
  have hB1 : B ≤ (w.alloc (.cells #[.string s] 9)).heap.size := Nat.le_trans hB hb0.size
  have HC1 : Hid ((w.alloc (.cells #[.string s] 9)).cell? ⟨w.heap.size, 0, none⟩ = some (.string s)) := show _ = _ by simp
  have HBL : Hid (w.heap.size < (w.alloc (.cells #[.string s] 9)).heap.size) := show _ < _ by simp
  have HNE : Hid (∀ w5, OwnI B w5 vs L → vs.ownBlock ≠ some w.heap.size) := show ∀ _, _ → _ from fun w5 _ e => by
    have := (World.ownsRow.lt HK.out.own _ e).2; omega
  go_enter Tryd.func38, Tryd.ntmps38
  go_wp2_with fail
  generalize w.alloc (.cells #[.string s] 9) = W4 at hb0 HB1 HK1 hB1 HC1 HBL ⊢
  generalize w.heap.size = B1 at HC1 HBL HNE ⊢
  clear hb0 HK
  have HKB : Hid (kb < W4.heap.size) := (Array.getElem?_eq_some_iff.1 HK1.out.row).1
  refine wp_region_wordsG (by kernel_rfl) (by kernel_rfl) (appT 10 (Below W4.heap.size)) (HeldI W4) tdrE (tdrU W4 kb B1 vs s o q) 12 tdrN [10, 11] (by kernel_rfl) (by kernel_rfl) (by kernel_rfl)
    tdrB (by kernel_rfl) (fun ix kx v e w w' hi hk hne hb hU hT => tdr_T _ _ _ _ _ _ _  ix kx v e w w' hk hne hb hU hT) (by decide) (HeldI.drew _) (fun k hk hge => absurd hk (Nat.not_lt.2 (show 12 ≤ k from hge)))
    [8, 9, 10, 11, 12, 13, 7, 14, 15, 5, 6] (by kernel_rfl) (forall_ops ?steps) ?behind
  case steps =>
    refine ⟨?_, ?_, ?_, ?_, ?_, ?_, ?_, ?_, ?_, ?_, ?_, ?_, trivial⟩
    · refine stepG_of rfl ?_
      exact stepR_value (t := 8) (.pointer (some ⟨kb, 0, none⟩)) rfl (fun _ => appT_other (by decide) (Below.refl _ _)) (fun ac w hG hN hO => by
        have e0 : slot ac 0 = .pointer (some ⟨kb, 0, none⟩) := hO 0 (by kernel_rfl)
        exact run_move_slot (.inl rfl) e0) (fun ac w hG hN => rfl)
    · refine stepG_of rfl ?_
      exact stepR_value (t := 9) (.pointer (some ⟨kb, 0, none⟩)) rfl (fun _ => appT_other (by decide) (Below.refl _ _)) (fun ac w hG hN hO => by
        have e8 : slot ac 8 = .pointer (some ⟨kb, 0, none⟩) := hN 0 (by decide)
        have f8 := slot_at e8
        unfold execOp; go_simp) (fun ac w hG hN => rfl)
    · refine stepG_of rfl ?_
      exact stepR_value (t := 10) (.pointer (some ⟨kb, 0, none⟩)) rfl (fun _ => appT_other (by decide) (Below.refl _ _)) (fun ac w hG hN hO => by
        have e9 : slot ac 9 = .pointer (some ⟨kb, 0, none⟩) := hN 1 (by decide)
        have f9 := slot_at e9
        unfold execOp; go_simp) (fun ac w hG hN => rfl)
    · refine stepG_of rfl ?_
      exact stepR_value (t := 11) (vs) rfl (fun _ => appT_other (by decide) (Below.refl _ _)) (fun ac w hG hN hO => by
        have e10 : slot ac 10 = .pointer (some ⟨kb, 0, none⟩) := hN 2 (by decide)
        have q1 := (hG.below.cell (p := ⟨kb, 0, none⟩) HKB.out).trans HK1.out.cell
        have q2 := (hG.below.cell (p := ⟨B1, 0, none⟩) HBL.out).trans HC1.out
        have f10 := slot_at e10
        unfold execOp; go_simp) (fun ac w hG hN => rfl)
    · refine stepG_of rfl ?_
      exact stepR_value (t := 12) (.string s) rfl (fun _ => appT_other (by decide) (Below.refl _ _)) (fun ac w hG hN hO => by
        have e3 : slot ac 3 = .pointer (some ⟨B1, 0, none⟩) := hO 3 (by kernel_rfl)
        have q1 := (hG.below.cell (p := ⟨kb, 0, none⟩) HKB.out).trans HK1.out.cell
        have q2 := (hG.below.cell (p := ⟨B1, 0, none⟩) HBL.out).trans HC1.out
        have f3 := slot_at e3
        unfold execOp; go_simp) (fun ac w hG hN => rfl)
    · refine stepG_of rfl ?_
      intro ac w hG hN hO
      have e11 : slot ac 11 = vs := hN 3 (by decide)
      have e12 : slot ac 12 = .string s := hN 4 (by decide)
      refine wp_callx 30 _ _ rfl (enters_of Tryd.func30 (by kernel_rfl) rfl) #[vs, .string s] (by simp [eval_slot, e11, e12]) (calls_val (F2.out w (HK1.out.own.items.stays hG.below))) ?_
      rintro v w'' ⟨hv, hb⟩
      exact ⟨v, rfl, (appT_other (by decide) hb), hG.on hb, hv⟩
    · refine stepG_of rfl ?_
      exact stepR_value (t := 7) ((.tuple #[itV o, .bool q])) rfl (fun _ => appT_other (by decide) (Below.refl _ _)) (fun ac w hG hN hO => by
        have e13 : slot ac 13 = (.tuple #[itV o, .bool q]) := hN 5 (by decide)
        exact run_move_slot (.inl rfl) e13) (fun ac w hG hN => rfl)
    · refine stepG_of rfl ?_
      exact stepR_value (t := 14) (itV o) rfl (fun _ => appT_other (by decide) (Below.refl _ _)) (fun ac w hG hN hO => by
        have e7 : slot ac 7 = (.tuple #[itV o, .bool q]) := hN 6 (by decide)
        have f7 := slot_at e7
        unfold execOp; go_simp) (fun ac w hG hN => rfl)
    · refine stepG_of rfl ?_
      exact stepR_value (t := 15) (.bool q) rfl (fun _ => appT_other (by decide) (Below.refl _ _)) (fun ac w hG hN hO => by
        have e7 : slot ac 7 = (.tuple #[itV o, .bool q]) := hN 6 (by decide)
        have f7 := slot_at e7
        unfold execOp; go_simp) (fun ac w hG hN => rfl)
    · refine stepG_of rfl ?_
      intro ac w hG hN hO
      refine wp_alloc_item rfl ?_
      exact ⟨_, rfl, appT_other (by decide) ((Below.refl _ _).alloc (Nat.le_refl _) _), hG.on ((Below.refl _ _).alloc (Nat.le_refl _) _), freshI_new w _ hG.below.size⟩
    · refine stepG_of rfl ?_
      intro ac w hG hN hO
      have e5 : FreshI W4.heap.size w (slot ac 5) := hN 9 (by decide)
      have e14 : slot ac 14 = itV o := hN 7 (by decide)
      refine wp_store_item (.tmp 5) (.tmp 14) rfl (B := W4.heap.size) e5 e14 ?_
      intro w' hb hbox
      exact ⟨_, rfl, appT_at hb, hG.onB hb, hbox⟩
    · refine stepG_of rfl ?_
      exact stepR_value (t := 6) (.bool q) rfl (fun _ => appT_other (by decide) (Below.refl _ _)) (fun ac w hG hN hO => by
        have e15 : slot ac 15 = .bool q := hN 8 (by decide)
        exact run_move_slot (.inr rfl) e15) (fun ac w hG hN => rfl)
  case behind =>
    intro ac w5 hG hV hS ha
    have h10 : BoxI W4.heap.size w5 (slot ac 5) o := hV 10 (by decide) (by decide)
    have h11 : slot ac 6 = .bool q := hV 11 (by decide) (by decide)
    generalize slot ac = sl at ha h10 h11
    subst ha
    simp only [patchL, List.contains_cons, List.contains_nil, Nat.reduceBEq, Bool.or_false, Bool.or_true, if_true, Bool.false_eq_true, if_false, Nat.reduceAdd]
    generalize sl 8 = s8
    generalize sl 9 = s9
    generalize sl 10 = s10
    generalize sl 11 = s11
    generalize sl 12 = s12
    generalize sl 13 = s13
    generalize sl 7 = s7
    generalize sl 14 = s14
    generalize sl 15 = s15
    generalize sl 5 = s5 at h10 ⊢
    generalize sl 6 = s6 at h11 ⊢
    subst h11
    clear hV hS
    have hb := hG.below
    clear hG h10
    have HK5 := Lib.hid (HK1.out.stays hb)
    have HB5 := Lib.hid (HB1.out.trans (hb.mono hB1))
    have HC5 := Lib.hid ((hb.cell (p := ⟨B1, 0, none⟩) HBL.out).trans HC1.out)
    have hB5 : B ≤ w5.heap.size := Nat.le_trans hB1 hb.size
    have HBL5 : Hid (B1 < w5.heap.size) := Nat.lt_of_lt_of_le HBL.out hb.size
    clear hb HK1 HB1 HC1 hB1 HKB HBL F2
    rcases hqq : q with _ | _
    · subst hqq
      have HG : Hid (goneT L t = L) := show _ = _ by unfold goneT; rw [← HQ.out]; rfl
      go_wp2
      go_ret
      exact ⟨rfl, ⟨vs, by rw [HG.out]; exact HK5.out⟩, HB5.out⟩
    · subst hqq
      have HG : Hid (goneT L t = dropT L t) := show _ = _ by unfold goneT; rw [← HQ.out]; rfl
      have c0 := HK5.out.cell
      have DL := Lib.hid (pDeleteFunc_any B vs L B1 s w5 HK5.out.own hB5 HF.out HC5.out (fun e => HNE.out w5 HK5.out.own e) hs)
      rw [← HT.out] at DL
      have f0 : w5.frozen? ⟨kb, 0, none⟩ = false := by simp [World.frozen?, HK5.out.row]
      clear f0
      go_wp2_with fail
      refine DL.out.mono ?_
      rintro e w6 ⟨u, rfl, hown, hg⟩
      have HR6 : Hid (w6.heap[kb]? = some (.cells #[vs] 47 (0, 0))) := (hg.block kb (Array.getElem?_eq_some_iff.1 HK5.out.row).1 (fun e => HK5.out.apart e.symm)).trans HK5.out.row
      have HK6 := Lib.hid (kept_store HR6.out hown HK5.out.from_)
      have HB6 := Lib.hid (HB5.out.trans (Kept.below HK5.out.own hg hB5))
      have c6 : w6.cell? ⟨kb, 0, none⟩ = some vs := by simp [World.cell?, HR6.out]
      have f6 : w6.frozen? ⟨kb, 0, none⟩ = false := by simp [World.frozen?, HR6.out]
      have hlit : ∃ ad n c, u = .slice ad n c := by
        rcases hown.2 with ⟨rfl, _⟩ | ⟨g, cap, cur, rfl, _⟩
        · exact ⟨_, _, _, rfl⟩
        · exact ⟨_, _, _, rfl⟩
      obtain ⟨ad, n, c, rfl⟩ := hlit
      have hkb := HK5.out.from_
      clear hown hg c0 DL HK5 HB5 HC5 HR6
      go_wp2
      go_ret
      exact ⟨rfl, ⟨_, by rw [HG.out]; exact HK6.out⟩, HB6.out.setCell (p := ⟨kb, 0, none⟩) hkb _⟩
end Go.Proofs.YtelaamchafocpaaDoor

/-
  Contracts over this translation: the statement ShaJoins as a walk.
-/
import Derived.WalkKit
import Derived.LoopTactic
import Derived.Outline
import Derived.Laws.BitsAllLaws
import Derived.Lib.Hide
import Derived.Below
import Derived.Laws.Rows
import Derived.Laws.CopyOwn
import Derived.Test.YtmaipdlioehigaaProg
import Derived.Test.YtmaipdlioehigaaShm
import Derived.Test.YtmaipdlioehigaaSwf
import Derived.Test.YtmaipdlioehigaaRow
import Derived.Great.BuildSlice
import Derived.BigRegion
import Derived.Deep.QuietTactic
import Derived.BigQuiet
import Derived.StillTailTactics
import Derived.IntWalk
import Derived.WalkSmall
import Derived.RegionTactic
set_option linter.unusedVariables false
set_option pp.maxSteps 200000
namespace Go.Proofs.Ytmaipdlioehigaa
open Go.RowKit Go.ChangeShapes Go.WideShapes

theorem both {n : Nat} {w W : World} {f : FuncId} {args : Array Value} {v : Value} (hn : n ≤ w.heap.size) (h : ∀ W, Calls Try.prog f args W fun e w' => e = .returned v ∧ RowKit.Below W.heap.size W w') (hB : RowKit.Below n w W) :
    Calls Try.prog f args W fun e w' => e = .returned v ∧ RowKit.Below W.heap.size W w' ∧ RowKit.Below n w w' :=
  (h W).mono fun _ _ ⟨he, hb⟩ => ⟨he, hb, hB.trans (hb.mono (Nat.le_trans hn hB.size))⟩
theorem catL_three (s : ByteArray) (k : Nat) (hk : k ≤ s.size) : catL [s.extract 0 k, ⟨#[]⟩, s.extract k s.size] = s.data.toList := by
  have hs := Lib.size_eq s
  unfold catL
  simp only [List.flatMap_cons, List.flatMap_nil, List.append_nil, Lib.extract_data]
  rw [show ([] : List UInt8) ++ List.take (s.size - k) (List.drop k s.data.toList) = List.take (s.size - k) (List.drop k s.data.toList) from rfl, List.drop_zero, Nat.sub_zero, hs, List.take_of_length_le (i := s.data.toList.length - k) (by simp), List.take_append_drop]
theorem isStrs_three {W : World} {B : Nat} {T : TypeId} {a b c : ByteArray} (h : Row W B #[.string a, .string b, .string c] T) : IsStrs W (.slice (some ⟨B, 0, none⟩) 3 3) [a, b, c] := by
  refine ⟨by show 3 ≤ maxLen; decide, some ⟨B, 0, none⟩, 3, rfl, (fun e => by cases e), fun _ => ⟨B, 0, rfl, h.lt, fun i hi => ?_⟩⟩
  rw [h.cell, Nat.zero_add]
  match i, hi with
  | 0, _ | 1, _ | 2, _ => rfl
theorem app_str2 (l : List UInt8) (t : ByteArray) : (⟨l.toArray⟩ : ByteArray) ++ t = ⟨(l ++ t.data.toList).toArray⟩ := by
  apply ByteArray.ext
  rw [ByteArray.data_append]
  simp
theorem wp_valueTo {P : Program} {o : Oper} {a : Act} {w w' : World} {v : Value} {K : Act → World → Prop} {Q : Exit → Act → World → Prop} (hr : (execOp a.eval o).run P w = .ok (.value v) w') (h : K (a.put o.dst v) w') : o.wp P a w K Q := by
  unfold Oper.wp
  rw [hr]
  exact h
theorem yields_eqS {ρ : Operand → Value} {o : Oper} {x y : Operand} {S : ByteArray} (ho : o.op = .binOp .eql 9 x y 9) (hx : ρ x = .string S) (hy : ρ y = .string S) (W : World) : (execOp ρ o).run Try.prog W = .ok (.value (.bool true)) W := by
  unfold execOp
  rw [ho]
  simp [hx, hy, go_sem]
theorem yields_slice {P : Program} {ρ : Operand → Value} {o : Oper} {t : TypeId} {x : Operand} {lo hi : Option Operand} {vx v : Value} {l h : Option Value} {W : World} (hu : P.underlying t = some .string) (ho : o.op = .slice t x lo hi none) (hx : ρ x = vx) (hl : lo.map ρ = l) (hh : hi.map ρ = h) (hr : (Instr.slice t vx l h none).run P W = .ok v W) : (execOp ρ o).run P W = .ok (.value v) W := by
  subst hx hl hh
  unfold execOp
  rw [ho]
  simp [run_sliceAt_string W t (ρ x) (lo.map ρ) (hi.map ρ) none hu, hr]
theorem yields_len {ρ : Operand → Value} {o : Oper} {x : Operand} {S : ByteArray} (ho : o.op = .call { callee := .builtin .len, args := #[x], argTypes := #[9] }) (hx : ρ x = .string S) (hS : S.size = 32) (W : World) : (execOp ρ o).run Try.prog W = .ok (.value (.int .i64 32)) W := by
  have hu := Try.underlying9
  unfold execOp
  rw [ho]
  simp [hx, go_sem, hu, hS]
set_option maxRecDepth 100000 in
set_option maxHeartbeats 4000000 in
theorem ShaJoins_walk (v : Value) (L : List ByteArray) (s : ByteArray) (c : Nat) (hs : s.size ≤ maxLen) (hc : c < 65536) (w : World) (hL : IsStrs w v L) (hm : ∀ b ∈ L, b.size ≤ maxLen) :
    Calls Try.prog 5 #[v, .string s, .int .u16 c] w fun e w' => e = .returned (.bool true) ∧ RowKit.Below w.heap.size w w' := by
  have HL := Lib.hid hL
  have HM := Lib.hid hm
  clear hm
  obtain ⟨hlm, a, cap, rfl, _, hcells⟩ := hL
  unfold maxLen at hlm hs
  have HC := Lib.hid hcells
  clear hcells
  have C5 := Lib.hid (fun W hB => both (w := w) (W := W) (Nat.le_refl _) (fun W => awake_any W) hB)
  by_cases hA : L.length ≤ 20 ∧ s.size ≤ 1000
  · obtain ⟨h1, h2⟩ := hA
    have hd1 : decide ((20 : Int) < (L.length : Int)) = false := by simpa using (show ¬ (20 : Int) < (L.length : Int) by omega)
    have hd2 : decide ((1000 : Int) < (s.size : Int)) = false := by simpa using (show ¬ (1000 : Int) < (s.size : Int) by omega)
    go_enter Try.func5, Try.ntmps5
    go_wp2_with fail
    go_loop [22, 7, 9] (fun i sv _ => ∃ k : Nat, k ≤ L.length ∧ i = .int .i64 k ∧ sv = .string ⟨(catL (L.take k)).toArray⟩ ∧ (catL (L.take k)).length ≤ 300 * k) (fun i _ _ => L.length - (intOf i).toNat)
    case atStart => exact ⟨0, by omega, rfl, rfl, by rw [List.take_zero]; decide⟩
    case round =>
      obtain ⟨k, hk, rfl, rfl, hkl⟩ := hrel
      obtain ⟨S, hS⟩ : ∃ S : ByteArray, S = ⟨(catL (L.take k)).toArray⟩ := ⟨_, rfl⟩
      have hSs : S.size ≤ 300 * k := by rw [hS, size_mk]; exact hkl
      rw [← hS]
      by_cases hlt : k < L.length
      · have hbk : decide ((k : Int) < (L.length : Int)) = true := by simpa using hlt
        obtain ⟨b, off, rfl, hbl, hcell⟩ := HC.out (by omega)
        have c0 := hcell k hlt
        obtain ⟨t, ht⟩ : ∃ t, t = L[k] := ⟨_, rfl⟩
        rw [← ht] at c0
        have htm : t.size ≤ 9223372036854775807 := by
          have := HM.out L[k] (List.getElem_mem hlt)
          rw [← ht] at this; unfold maxLen at this; omega
        have hct := catL_take L k hlt
        rw [← ht] at hct
        have b0 : (0 : Int) ≤ (k : Int) ∧ (k : Int) < (L.length : Int) := by omega
        have HCT := Lib.hid hct; have HS := Lib.hid hS
        clear hcell ht hct hS
        by_cases h3 : t.size ≤ 300
        · have hd3 : decide ((300 : Int) < (t.size : Int)) = false := by simpa using (show ¬ (300 : Int) < (t.size : Int) by omega)
          have hsum : ¬ 9223372036854775807 < S.size + t.size := by omega
          go_wp2_with fail
          refine ⟨⟨k + 1, by omega, by go_num, ?_, ?_⟩, ?_⟩
          · rw [HS.out, HCT.out, app_str2]
          · rw [HCT.out, List.length_append, ← Lib.size_eq]; omega
          · simp only [intOf]; omega
        · have hd3 : decide ((300 : Int) < (t.size : Int)) = true := by simpa using (show (300 : Int) < (t.size : Int) by omega)
          go_wp2_with fail
          refine (awake_any _).mono ?_
          rintro e w3 ⟨rfl, hb3⟩
          go_wp2_with fail
          go_ret
          exact ⟨rfl, hb3⟩
      · have hkL : k = L.length := by omega
        have hbk : decide ((k : Int) < (L.length : Int)) = false := by rw [hkL]; simp
        have hSL : S = ⟨(catL L).toArray⟩ := by rw [hS, hkL, List.take_length]
        have hT : Total L ≤ 6000 := by
          unfold Total
          rw [hkL, List.take_length] at hkl; omega
        obtain ⟨r, hr⟩ : ∃ r, r = c % (s.size + 1) := ⟨_, rfl⟩
        have hrs : r ≤ s.size := by rw [hr]; have := Nat.mod_lt c (show 0 < s.size + 1 by omega); omega
        have hrm : (c : Int).tmod ((s.size : Int) + 1) = (r : Int) := by
          rw [hr, Int.natCast_emod, Int.tmod_eq_emod_of_nonneg (by omega)]; rfl
        obtain ⟨S1, hS1⟩ : ∃ S1 : ByteArray, S1 = ⟨(shaSum (catL L)).toArray⟩ := ⟨_, rfl⟩
        obtain ⟨S2, hS2⟩ : ∃ S2 : ByteArray, S2 = ⟨(shaSum s.data.toList).toArray⟩ := ⟨_, rfl⟩
        have h32 : S2.size = 32 := by rw [hS2, size_mk, shaSum_len]
        obtain ⟨t0, ht0⟩ : ∃ t0, t0 = s.extract 0 r := ⟨_, rfl⟩
        obtain ⟨t2, ht2⟩ : ∃ t2, t2 = s.extract r s.size := ⟨_, rfl⟩
        have hct3 : catL [t0, ⟨#[]⟩, t2] = s.data.toList := by rw [ht0, ht2]; exact catL_three s r hrs
        have C1 : Hid (∀ W, RowKit.Below w.heap.size w W → Calls Try.prog 15 #[.slice a L.length cap] W fun e w' => e = .returned (.string S1) ∧ RowKit.Below W.heap.size W w' ∧ RowKit.Below w.heap.size w w') := Lib.hid (fun W hB => by
          have := Join_any _ L (by omega) W (HL.out.stays hB)
          rw [← hS1] at this
          exact this.mono fun _ _ ⟨he, hb⟩ => ⟨he, hb, hB.trans (hb.mono hB.size)⟩)
        have C2 := Lib.hid (fun W hB => both (w := w) (W := W) (Nat.le_refl _) (fun W => Sum_any S (by rw [hSL, size_mk]; unfold Total at hT; omega) W) hB)
        rw [show S.data.toList = catL L by rw [hSL], ← hS1] at C2
        have C3 : Hid (∀ B W, Row W B #[.string t0, .string ⟨#[]⟩, .string t2] 9 → RowKit.Below w.heap.size w W → Calls Try.prog 15 #[.slice (some ⟨B, 0, none⟩) 3 3] W fun e w' => e = .returned (.string S2) ∧ RowKit.Below W.heap.size W w' ∧ RowKit.Below w.heap.size w w') := Lib.hid (fun B W hR hB => by
          have := Join_any _ [t0, ⟨#[]⟩, t2] (by unfold Total; rw [hct3, ← Lib.size_eq]; omega) W (isStrs_three hR)
          rw [hct3, ← hS2] at this
          exact this.mono fun _ _ ⟨he, hb⟩ => ⟨he, hb, hB.trans (hb.mono hB.size)⟩)
        have C4 := Lib.hid (fun W hB => both (w := w) (W := W) (Nat.le_refl _) (fun W => Sum_any s (by omega) W) hB)
        rw [← hS2] at C4
        have hd0 := fun W => run_slice_to (P := Try.prog) Try.underlying9 s r hrs W
        have hd2 := fun W => run_slice_from (P := Try.prog) Try.underlying9 s r hrs W
        rw [← ht0] at hd0
        rw [← ht2] at hd2
        clear hkL hSL hT hr hS1 hS2 ht0 ht2 hct3 hS hkl
        go_wp2_with (refine wpList_rem rfl _ _ _ _ rfl .i64 (c : Int) ((s.size : Int) + 1) (r : Int) rfl rfl (by omega) hrm ?_)
        refine wp_region_any (by kernel_rfl) ?_
        change wpAny _ _ _ _ _ _ _ (World.drew _)
        refine wpAny_take (i := 0) (v := .slice a L.length cap) rfl (by kernel_rfl) (by kernel_rfl) (by kernel_rfl) (fun _ _ _ h => h) (Or.inl ⟨by kernel_rfl, fun _ => by kernel_rfl⟩) ?_
        refine wpAny_take (i := 2) (v := .string S) rfl (by kernel_rfl) (by kernel_rfl) (by kernel_rfl) (fun _ _ _ h => h) (Or.inl ⟨by kernel_rfl, fun _ => by kernel_rfl⟩) ?_
        refine wpAny_ready (rs := [1]) (by kernel_rfl) (by simp) ?_
        refine BigFrame.allReady_want rfl (by kernel_rfl) (fun K hK => ?_) AllReady.nil
        refine wp_callf 15 _ _ rfl (enters_of Try.func15 (by kernel_rfl) rfl) #[.slice a L.length cap] (by kernel_rfl) (.string S1) (C1.out _ (RowKit.Below.refl _ _).drew) ?_
        rintro w1 ⟨hx1, hy1⟩
        refine hK _ _ ?_
        clear hK K
        refine wpAny_ready (rs := [3]) (by kernel_rfl) (by simp) ?_
        refine BigFrame.allReady_want rfl (by kernel_rfl) (fun K hK => ?_) AllReady.nil
        refine wp_callf 13 _ _ rfl (enters_of Try.func13 (by kernel_rfl) rfl) #[.string S] (by kernel_rfl) (.string S1) (C2.out _ hy1) ?_
        rintro w2 ⟨hx2, hy2⟩
        refine hK _ _ ?_
        clear hK K
        refine wpAny_take (i := 4) (v := .bool true) rfl (by kernel_rfl) (by kernel_rfl) (by kernel_rfl) (fun _ _ _ h => h) (Or.inl ⟨by kernel_rfl, fun W => yields_eqS (S := S1) rfl (by kernel_rfl) (by kernel_rfl) W⟩) ?_
        refine wpAny_take (i := 5) (v := .bool true) rfl (by kernel_rfl) (by kernel_rfl) (by kernel_rfl) (fun _ _ _ h => h) (Or.inl ⟨by kernel_rfl, fun _ => by kernel_rfl⟩) ?_
        refine wpAny_take (i := 6) (v := .string s) rfl (by kernel_rfl) (by kernel_rfl) (by kernel_rfl) (fun _ _ _ h => h) (Or.inl ⟨by kernel_rfl, fun _ => by kernel_rfl⟩) ?_
        refine wpAny_take (i := 7) (v := .int .i64 (r : Int)) rfl (by kernel_rfl) (by kernel_rfl) (by kernel_rfl) (fun _ _ _ h => h) (Or.inl ⟨by kernel_rfl, fun _ => by kernel_rfl⟩) ?_
        refine wpAny_take (i := 8) (v := .string t0) rfl (by kernel_rfl) (by kernel_rfl) (by kernel_rfl) (fun _ _ _ h => h) (Or.inl ⟨by kernel_rfl, fun W => yields_slice Try.underlying9 rfl (vx := .string s) (by kernel_rfl) (by kernel_rfl) (by kernel_rfl) (hd0 W)⟩) ?_
        refine wpAny_take (i := 9) (v := .string s) rfl (by kernel_rfl) (by kernel_rfl) (by kernel_rfl) (fun _ _ _ h => h) (Or.inl ⟨by kernel_rfl, fun _ => by kernel_rfl⟩) ?_
        refine wpAny_take (i := 10) (v := .int .i64 (r : Int)) rfl (by kernel_rfl) (by kernel_rfl) (by kernel_rfl) (fun _ _ _ h => h) (Or.inl ⟨by kernel_rfl, fun _ => by kernel_rfl⟩) ?_
        refine wpAny_take (i := 11) (v := .string t2) rfl (by kernel_rfl) (by kernel_rfl) (by kernel_rfl) (fun _ _ _ h => h) (Or.inl ⟨by kernel_rfl, fun W => yields_slice Try.underlying9 rfl (vx := .string s) (by kernel_rfl) (by kernel_rfl) (by kernel_rfl) (hd2 W)⟩) ?_
        refine wpAny_take (i := 14) (v := Value.string s) rfl (by kernel_rfl) (by kernel_rfl) (by kernel_rfl) (fun _ _ _ h => h) (Or.inl ⟨by kernel_rfl, fun _ => by kernel_rfl⟩) ?_
        refine wpAny_ready (rs := [12]) (by kernel_rfl) (by simp) ?_
        refine BigFrame.allReady_want rfl (by kernel_rfl) (fun K hK => ?_) AllReady.nil
        refine wp_valueTo (v := .slice (some ⟨w2.heap.size, 0, none⟩) 3 3) (w' := w2.alloc (.cells #[.string t0, .string ⟨#[]⟩, .string t2] 9)) (by kernel_rfl) ?_
        refine hK _ _ ?_
        clear hK K
        have hr3 := Row.made w2 #[.string t0, .string ⟨#[]⟩, .string t2] 9
        have hy2' := RowKit.Below.alloc hy2 (RowKit.Below.size hy2) (.cells #[.string t0, .string ⟨#[]⟩, .string t2] 9)
        refine wpAny_ready (rs := [13]) (by kernel_rfl) (by simp) ?_
        refine BigFrame.allReady_want rfl (by kernel_rfl) (fun K hK => ?_) AllReady.nil
        refine wp_callf 15 _ _ rfl (enters_of Try.func15 (by kernel_rfl) rfl) #[.slice (some ⟨w2.heap.size, 0, none⟩) 3 3] (by kernel_rfl) (.string S2) (C3.out _ _ hr3 hy2') ?_
        rintro w3 ⟨hx3, hy3⟩
        refine hK _ _ ?_
        clear hK K
        refine wpAny_ready (rs := [15]) (by kernel_rfl) (by simp) ?_
        refine BigFrame.allReady_want rfl (by kernel_rfl) (fun K hK => ?_) AllReady.nil
        refine wp_callf 13 _ _ rfl (enters_of Try.func13 (by kernel_rfl) rfl) #[.string s] (by kernel_rfl) (.string S2) (C4.out _ hy3) ?_
        rintro w4 ⟨hx4, hy4⟩
        refine hK _ _ ?_
        clear hK K
        refine wpAny_take (i := 16) (v := .bool true) rfl (by kernel_rfl) (by kernel_rfl) (by kernel_rfl) (fun _ _ _ h => h) (Or.inl ⟨by kernel_rfl, fun W => yields_eqS (S := S2) rfl (by kernel_rfl) (by kernel_rfl) W⟩) ?_
        refine wpAny_take (i := 17) (v := .bool true) rfl (by kernel_rfl) (by kernel_rfl) (by kernel_rfl) (fun _ _ _ h => h) (Or.inl ⟨by kernel_rfl, fun _ => by kernel_rfl⟩) ?_
        refine wpAny_take (i := 18) (v := .bool true) rfl (by kernel_rfl) (by kernel_rfl) (by kernel_rfl) (fun _ _ _ h => h) (Or.inl ⟨by kernel_rfl, fun _ => by kernel_rfl⟩) ?_
        refine wpAny_take (i := 19) (v := Value.string s) rfl (by kernel_rfl) (by kernel_rfl) (by kernel_rfl) (fun _ _ _ h => h) (Or.inl ⟨by kernel_rfl, fun _ => by kernel_rfl⟩) ?_
        refine wpAny_ready (rs := [20]) (by kernel_rfl) (by simp) ?_
        refine BigFrame.allReady_want rfl (by kernel_rfl) (fun K hK => ?_) AllReady.nil
        refine wp_callf 13 _ _ rfl (enters_of Try.func13 (by kernel_rfl) rfl) #[.string s] (by kernel_rfl) (.string S2) (C4.out _ hy4) ?_
        rintro w5 ⟨hx5, hy5⟩
        refine hK _ _ ?_
        clear hK K
        refine wpAny_take (i := 21) (v := .int .i64 32) rfl (by kernel_rfl) (by kernel_rfl) (by kernel_rfl) (fun _ _ _ h => h) (Or.inl ⟨by kernel_rfl, fun W => yields_len (S := S2) rfl (by kernel_rfl) h32 W⟩) ?_
        refine wpAny_take (i := 22) (v := .bool true) rfl (by kernel_rfl) (by kernel_rfl) (by kernel_rfl) (fun _ _ _ h => h) (Or.inl ⟨by kernel_rfl, fun _ => by kernel_rfl⟩) ?_
        refine wpAny_take (i := 23) (v := .bool true) rfl (by kernel_rfl) (by kernel_rfl) (by kernel_rfl) (fun _ _ _ h => h) (Or.inl ⟨by kernel_rfl, fun _ => by kernel_rfl⟩) ?_
        refine wpAny_take (i := 24) (v := .bool true) rfl (by kernel_rfl) (by kernel_rfl) (by kernel_rfl) (fun _ _ _ h => h) (Or.inl ⟨by kernel_rfl, fun _ => by kernel_rfl⟩) ?_
        refine wpAny_ready (rs := [25]) (by kernel_rfl) (by simp) ?_
        refine BigFrame.allReady_want rfl (by kernel_rfl) (fun K hK => ?_) AllReady.nil
        refine wp_callf 12 _ _ rfl (enters_of Try.func12 (by kernel_rfl) rfl) #[] (by kernel_rfl) (.bool true) (C5.out _ hy5) ?_
        rintro w6 ⟨hx6, hy6⟩
        refine hK _ _ ?_
        clear hK K
        refine wpAny_take (i := 26) (v := .bool true) rfl (by kernel_rfl) (by kernel_rfl) (by kernel_rfl) (fun _ _ _ h => h) (Or.inl ⟨by kernel_rfl, fun _ => by kernel_rfl⟩) ?_
        refine wpAny_take (i := 27) (v := .bool true) rfl (by kernel_rfl) (by kernel_rfl) (by kernel_rfl) (fun _ _ _ h => h) (Or.inl ⟨by kernel_rfl, fun _ => by kernel_rfl⟩) ?_
        refine wpAny_done (by kernel_rfl) ?_ _
        go_wp2_with fail
        go_ret
        exact ⟨by kernel_rfl, hy6⟩
  · have hd : (decide ((20 : Int) < (L.length : Int)) = true) ∨ (decide ((20 : Int) < (L.length : Int)) = false ∧ decide ((1000 : Int) < (s.size : Int)) = true) := by
      by_cases h : L.length ≤ 20
      · right; exact ⟨by simpa using (show ¬ (20 : Int) < (L.length : Int) by omega), by simpa using (show (1000 : Int) < (s.size : Int) by omega)⟩
      · left; simpa using (show (20 : Int) < (L.length : Int) by omega)
    rcases hd with hd1 | ⟨hd1, hd2⟩
    all_goals
      go_enter Try.func5, Try.ntmps5
      go_wp2_with fail
      refine (awake_any _).mono ?_
      rintro e w3 ⟨rfl, hb3⟩
      go_wp2_with fail
      go_ret
      exact ⟨rfl, hb3⟩
end Go.Proofs.Ytmaipdlioehigaa

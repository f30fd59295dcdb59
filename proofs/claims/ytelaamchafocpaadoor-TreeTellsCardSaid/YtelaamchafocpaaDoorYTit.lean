/-
  Contracts over this translation: what is below a path is taken out of a row: strings.HasPrefix, slices.IndexFunc, slices.DeleteFunc.
-/
import Derived.Test.YtelaamchafocpaaDoorYTip
import Derived.IntWalk
set_option linter.unusedVariables false
namespace Go.Proofs.YtelaamchafocpaaDoor
open Go.RowKit
attribute [local go_sem] Oper.semAt_some

def prefixB (a b : ByteArray) : Bool := decide (b.size ≤ a.size) && decide (a.data.toList.take b.size = b.data.toList)
/-- What goes: what is at a path, and below it. -/
def delP (t : List UInt8) (x : It) : Bool := decide (x.t = t) || belowB x.t t
theorem dropT_del (L : List It) (t : List UInt8) : dropT L t = L.filter (fun y => !delP t y) := rfl
theorem prefix_del (x : It) (s : ByteArray) : prefixB (x.p ++ ⟨#[47]⟩) (s ++ ⟨#[47]⟩) = delP s.data.toList x := by
  unfold prefixB delP
  have h47 : (⟨#[47]⟩ : ByteArray).data.toList = [47] := rfl
  have z1 : (x.p ++ ⟨#[47]⟩).size = x.t.length + 1 := by rw [Lib.size_eq, bytes_app, h47, List.length_append]; rfl
  have z2 : (s ++ ⟨#[47]⟩).size = s.data.toList.length + 1 := by rw [Lib.size_eq, bytes_app, h47, List.length_append]; rfl
  rw [z1, z2, bytes_app, bytes_app, h47, show x.p.data.toList = x.t from rfl]
  generalize x.t = l
  generalize s.data.toList = m
  rcases Nat.lt_trichotomy m.length l.length with h | h | h
  · have hne : l ≠ m := fun e => by rw [e] at h; omega
    unfold belowB
    rw [decide_eq_true (show m.length + 1 ≤ l.length + 1 by omega), decide_eq_false hne, decide_eq_true h, List.take_append_of_le_length (by omega)]
    simp
  · have hn : ¬ m.length < l.length := by omega
    unfold belowB
    rw [decide_eq_true (show m.length + 1 ≤ l.length + 1 by omega), decide_eq_false hn, h, List.take_of_length_le (by simp), Bool.true_and, Bool.false_and, Bool.or_false]
    rw [Bool.eq_iff_iff]; simp
  · have hne : l ≠ m := fun e => by rw [e] at h; omega
    have hn : ¬ m.length < l.length := by omega
    unfold belowB
    rw [decide_eq_false (show ¬ m.length + 1 ≤ l.length + 1 by omega), decide_eq_false hne, decide_eq_false hn]
    rfl
set_option maxRecDepth 100000 in
set_option maxHeartbeats 2000000 in
theorem lHasPrefix_any (a b : ByteArray) (w : World) (ha : a.size ≤ 1000000) (hb : b.size ≤ 1000000) :
    Calls Tryd.prog 65 #[.string a, .string b] w fun e w' => e = .returned (.bool (prefixB a b)) ∧ w = w' := by
  by_cases hlt : b.size ≤ a.size
  · have e1 : decide ((b.size : Int) ≤ (a.size : Int)) = true := decide_eq_true (by omega)
    have hd := fun W => run_slice_to (P := Tryd.prog) Tryd.underlying9 a b.size (by omega) W
    have hx : (a.extract 0 b.size).data.toList = a.data.toList.take b.size := by rw [Lib.extract_data]; simp
    have HP : Hid (prefixB a b = decide ((a.extract 0 b.size).data.toList = b.data.toList)) := show _ = _ by unfold prefixB; rw [decide_eq_true hlt, hx]; rfl
    clear hx
    obtain ⟨t, ht⟩ : ∃ t, t = a.extract 0 b.size := ⟨_, rfl⟩
    rw [← ht] at hd HP
    clear ht
    by_cases he : t = b
    · have f1 := beq_true he
      have HV : Hid (prefixB a b = true) := show _ = _ by rw [HP.out, he]; simp
      clear he
      go_enter Tryd.func65, Tryd.ntmps65
      go_wp2
      go_ret
      exact ⟨by rw [HV.out]; rfl, rfl⟩
    · have f1 := beq_false he
      have HV : Hid (prefixB a b = false) := show _ = _ by rw [HP.out, decide_eq_false (fun e => he (str_eq' e))]
      clear he
      go_enter Tryd.func65, Tryd.ntmps65
      go_wp2
      go_ret
      exact ⟨by rw [HV.out]; rfl, rfl⟩
  · have e1 : decide ((b.size : Int) ≤ (a.size : Int)) = false := decide_eq_false (by omega)
    have HV : Hid (prefixB a b = false) := show _ = _ by unfold prefixB; rw [decide_eq_false hlt]; rfl
    go_enter Tryd.func65, Tryd.ntmps65
    go_wp2
    go_ret
    exact ⟨by rw [HV.out]; rfl, rfl⟩
theorem HasPrefix_any (a b : ByteArray) (w : World) (ha : a.size ≤ 1000000) (hb : b.size ≤ 1000000) :
    Calls Tryd.prog 52 #[.string a, .string b] w fun e w' => e = .returned (.bool (prefixB a b)) ∧ w = w' := by
  have C := Lib.hid (lHasPrefix_any a b w ha hb)
  go_enter Tryd.func52, Tryd.ntmps52
  go_wp2_with fail
  refine C.out.mono ?_
  rintro e w1 ⟨rfl, rfl⟩
  go_wp2
  go_ret
  exact ⟨rfl, rfl⟩
theorem app_size (a : ByteArray) : (a ++ ⟨#[47]⟩).size = a.size + 1 := by
  rw [Lib.size_eq, bytes_app, List.length_append, ← Lib.size_eq]; rfl
set_option maxRecDepth 100000 in
set_option maxHeartbeats 2000000 in
/-- The closure that tells what goes; its captured path lies in a block of its own. -/
theorem kDel_any (x : It) (bt : Nat) (s : ByteArray) (w : World) (hc : w.cell? ⟨bt, 0, none⟩ = some (.string s)) (hx : x.p.size ≤ 400) (hs : s.size ≤ 400) :
    Calls Tryd.prog 51 #[itV x, .pointer (some ⟨bt, 0, none⟩)] w fun e w' => e = .returned (.bool (delP s.data.toList x)) ∧ Below w.heap.size w w' := by
  have hb0 := (Below.refl w.heap.size w).alloc (Nat.le_refl _) (.cells #[.string x.p, .bool x.d, .bool x.e, .string x.c] 27)
  have C := Lib.hid (fun w => HasPrefix_any (x.p ++ ⟨#[47]⟩) (s ++ ⟨#[47]⟩) w (by rw [app_size]; omega) (by rw [app_size]; omega))
  rw [prefix_del] at C
  have h1 : ¬ 9223372036854775807 < x.p.size + (⟨#[47]⟩ : ByteArray).size := by have : (⟨#[47]⟩ : ByteArray).size = 1 := rfl; omega
  have h2 : ¬ 9223372036854775807 < s.size + (⟨#[47]⟩ : ByteArray).size := by have : (⟨#[47]⟩ : ByteArray).size = 1 := rfl; omega
  have c1 := (hb0.cell (p := ⟨bt, 0, none⟩) (block_lt_of_cell hc)).trans hc
  have HB := Lib.hid hb0
  clear hb0 hc
  go_enter Tryd.func51, Tryd.ntmps51
  go_wp2_with fail
  refine (C.out _).mono ?_
  rintro e w1 ⟨rfl, rfl⟩
  go_wp2
  go_ret
  exact ⟨rfl, HB.out⟩

/-- Where the first stands that goes. -/
def RetIdx (L : List It) (p : It → Bool) (w : World) (e : Ending) (w' : World) : Prop :=
  Below w.heap.size w w' ∧ ((e = .returned (.int .i64 (-1)) ∧ ∀ y ∈ L, p y = false) ∨ ∃ k, ∃ h : k < L.length, e = .returned (.int .i64 k) ∧ p L[k] = true ∧ ∀ y ∈ L.take k, p y = false)
set_option maxRecDepth 100000 in
set_option maxHeartbeats 2000000 in
theorem pIndexFunc_any (vs : Value) (L : List It) (bt : Nat) (s : ByteArray) (w : World) (h : IsItems w vs L) (hf : fewB L = true) (hc : w.cell? ⟨bt, 0, none⟩ = some (.string s)) (hs : s.size ≤ 400) :
    Calls Tryd.prog 64 #[vs, .func (.func 51) #[] #[.pointer (some ⟨bt, 0, none⟩)]] w (RetIdx L (delP s.data.toList) w) := by
  have HI := Lib.hid h
  have HFEW := Lib.hid (few_mem hf)
  have h70 := few_len hf
  have hbl := block_lt_of_cell hc
  have DD := Lib.hid (fun x w hc hx => kDel_any x bt s w hc hx hs)
  obtain ⟨p, hp⟩ : ∃ p, p = delP s.data.toList := ⟨_, rfl⟩
  rw [← hp] at DD ⊢
  clear hp
  have HC := Lib.hid hc
  obtain ⟨hm, a, cap, rfl, _, hcc⟩ := h
  clear hcc hf hc hm
  go_enter Tryd.func64, Tryd.ntmps64
  go_wp2
  go_loopw [8] (fun i wr => ∃ k : Nat, k ≤ L.length ∧ i = .int .i64 k ∧ (∀ y ∈ L.take k, p y = false) ∧ Below w.heap.size w wr) (fun i _ => L.length - (intOf i).toNat)
  case atStart => exact ⟨0, Nat.zero_le _, rfl, by simp, Below.refl _ _⟩
  case round =>
    obtain ⟨k, hk, rfl, hall, hB⟩ := hrel
    have HA := Lib.hid hall; clear hall
    by_cases hlt : k < L.length
    · obtain ⟨_, _, _, e, _, hc⟩ := HI.out.stays hB
      cases e
      obtain ⟨b, off, rfl, _, g⟩ := hc (by omega)
      obtain ⟨c0, c1, c2, c3⟩ := g k hlt
      clear g hc
      have hbk : decide ((k : Int) < (L.length : Int)) = true := by simpa using (show (k : Int) < L.length by omega)
      have hxs := (HFEW.out _ (List.getElem_mem hlt)).1
      have HYES : Hid (p L[k] = true → RetIdx L p w (.returned (.int .i64 k)) = fun w' => Below w.heap.size w w' ∧ RetIdx L p w (.returned (.int .i64 k)) w') := show _ → _ from fun h => by
        funext w'
        exact propext ⟨fun hh => ⟨hh.1, hh⟩, fun hh => hh.2⟩
      have HNX : Hid (p L[k] = false → ∀ y ∈ L.take (k + 1), p y = false) := show _ → _ from fun h y hy => by
        rw [List.take_succ_eq_append_getElem hlt] at hy
        rcases List.mem_append.1 hy with e | e
        · exact HA.out y e
        · rw [List.mem_singleton.1 e]; exact h
      have HGOT : Hid (p L[k] = true → ∀ w', Below w.heap.size w w' → RetIdx L p w (.returned (.int .i64 k)) w') := show _ → _ from fun h w' hb => ⟨hb, .inr ⟨k, hlt, rfl, h, HA.out⟩⟩
      clear HYES
      have hcw := (hB.cell (p := ⟨bt, 0, none⟩) hbl).trans HC.out
      obtain ⟨x, hx⟩ : ∃ x, x = L[k] := ⟨_, rfl⟩
      rw [← hx] at c0 c1 c2 c3 hxs HNX HGOT
      clear hx
      have D1 := Lib.hid (DD.out x wr hcw hxs)
      rcases hpx : p x with _ | _
      · rw [hpx] at D1
        have HN := Lib.hid (HNX.out hpx)
        clear hpx HNX HGOT hcw
        go_wp2_with fail
        refine D1.out.mono ?_
        rintro e w1 ⟨rfl, hb⟩
        have hB1 := below_step hB hb
        clear hb
        go_wp2
        go_roundw
        case rel => exact ⟨k + 1, by omega, by go_num, HN.out, hB1⟩
        case measure => simp [intOf]; omega
      · rw [hpx] at D1
        have HR := Lib.hid (HGOT.out hpx)
        clear hpx HNX HGOT hcw
        go_wp2_with fail
        refine D1.out.mono ?_
        rintro e w1 ⟨rfl, hb⟩
        have hB1 := below_step hB hb
        clear hb
        go_wp2
        go_ret
        exact HR.out _ hB1
    · have HR : Hid (∀ w', Below w.heap.size w w' → RetIdx L p w (.returned (.int .i64 (-1))) w') := show ∀ _, _ → _ from fun w' hb => ⟨hb, .inl ⟨rfl, fun y hy => HA.out y (by rw [List.take_of_length_le (by omega)]; exact hy)⟩⟩
      go_wp2
      go_ret
      exact HR.out _ hB
end Go.Proofs.YtelaamchafocpaaDoor

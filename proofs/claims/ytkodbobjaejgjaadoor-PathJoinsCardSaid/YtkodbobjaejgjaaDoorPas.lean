/-
  Contracts over this translation: the document's parts, Split, Fit.
-/
import Derived.Test.YtkodbobjaejgjaaDoorPar
set_option linter.unusedVariables false
namespace Go.Proofs.YtkodbobjaejgjaaDoor
open Go.RowKit
attribute [local go_sem] Oper.semAt_some

/-- A call that hands back a slice of strings. -/
def RetL (L : List (List UInt8)) (w : World) (e : Ending) (w' : World) : Prop := ∃ v, e = .returned v ∧ IsStrs w' v (strsOf L) ∧ Below w.heap.size w w'

/-- On the way through a text: the parts that ended, where the next begins. -/
def OnPart (l : List UInt8) (M : List (List UInt8)) (f k : Nat) : Prop :=
  (k ≤ l.length ∧ f ≤ k ∧ pts l = M ++ pts (l.drop f) ∧ (47 : UInt8) ∉ (l.drop f).take (k - f)) ∨ (k = l.length + 1 ∧ M = pts l)
theorem onPart_start (l : List UInt8) : OnPart l [] 0 0 := .inl ⟨Nat.zero_le _, Nat.le_refl _, rfl, by simp⟩
theorem onPart_le {l : List UInt8} {M : List (List UInt8)} {f k : Nat} (h : OnPart l M f k) (hk : k ≤ l.length) : f ≤ k := by
  rcases h with h | h
  · exact h.2.1
  · omega
theorem onPart_cut {l : List UInt8} {M : List (List UInt8)} {f k : Nat} (h : OnPart l M f k) (hk : k < l.length) (h47 : l[k] = 47) : OnPart l (M ++ [(l.drop f).take (k - f)]) (k + 1) (k + 1) := by
  rcases h with ⟨h1, h2, h3, h4⟩ | ⟨h1, _⟩
  · refine .inl ⟨by omega, Nat.le_refl _, ?_, by simp⟩
    have e : l.drop f = (l.drop f).take (k - f) ++ 47 :: l.drop (k + 1) := by
      conv => lhs; rw [← List.take_append_drop (k - f) (l.drop f)]
      rw [List.drop_drop, show f + (k - f) = k by omega, List.drop_eq_getElem_cons hk, h47]
    rw [h3, e, pts_app, ← e, pts_one h4]; simp
  · omega
theorem onPart_end {l : List UInt8} {M : List (List UInt8)} {f : Nat} (h : OnPart l M f l.length) (g : Nat) : OnPart l (M ++ [(l.drop f).take (l.length - f)]) g (l.length + 1) := by
  rcases h with ⟨h1, h2, h3, h4⟩ | ⟨h1, _⟩
  · refine .inr ⟨rfl, ?_⟩
    rw [h3, ← pts_one h4, List.take_of_length_le (by simp)]
  · omega
theorem onPart_step {l : List UInt8} {M : List (List UInt8)} {f k : Nat} (h : OnPart l M f k) (hk : k < l.length) (h47 : l[k] ≠ 47) : OnPart l M f (k + 1) := by
  rcases h with ⟨h1, h2, h3, h4⟩ | ⟨h1, _⟩
  · refine .inl ⟨by omega, by omega, h3, ?_⟩
    rw [show k + 1 - f = (k - f) + 1 by omega, List.take_succ_eq_append_getElem (by simp; omega)]
    intro hm
    rcases List.mem_append.1 hm with e | e
    · exact h4 e
    · refine h47 ?_
      have := List.mem_singleton.1 e
      rw [List.getElem_drop] at this
      rw [this]; congr 1; omega
  · omega
theorem onPart_fin {l : List UInt8} {M : List (List UInt8)} {f : Nat} (h : OnPart l M f (l.length + 1)) : M = pts l := by
  rcases h with ⟨h1, _⟩ | ⟨_, h⟩
  · omega
  · exact h

theorem getE_list (s : ByteArray) (k : Nat) (h : k < s.size) : s.data.toList[k]'(by rw [← Lib.size_eq]; exact h) = s[k] := by
  show _ = s.data[k]
  simp

set_option maxRecDepth 100000 in
set_option maxHeartbeats 2000000 in
theorem parts_any (s : ByteArray) (hs : s.size ≤ 100000) (w : World) :
    Calls Tryd.prog 25 #[.string s] w (RetL (pts s.data.toList) w) := by
  have hown0 := ownTxt_nil w
  go_enter Tryd.func25, Tryd.ntmps25
  go_wp2
  go_loopw [3, 4, 5] (fun l f i wr => ∃ (M : List (List UInt8)) (a k : Nat) , k ≤ s.size + 1 ∧ f = .int .i64 a ∧ i = .int .i64 k ∧ M.length ≤ k ∧ OnPart s.data.toList M a k ∧ OwnTxt w wr l M ∧ Below w.heap.size w wr) (fun _ _ i _ => s.size + 1 - (intOf i).toNat)
  case atStart => exact ⟨[], 0, 0, Nat.zero_le _, rfl, rfl, Nat.le_refl _, onPart_start _, hown0, Below.refl _ _⟩
  case round =>
    obtain ⟨M, a, k, hk, rfl, rfl, hml, hop, hown, hB⟩ := hrel
    have HP := Lib.hid hop; have HO := Lib.hid hown
    have hol : M.length ≤ 1000000 := by omega
    clear hown0 hop hown
    by_cases hlt : k ≤ s.size
    · have e1 : decide ((k : Int) ≤ (s.size : Int)) = true := decide_eq_true (by omega)
      have hak := onPart_le HP.out (by rw [← Lib.size_eq]; exact hlt)
      have hd := fun W => run_slice_str (P := Tryd.prog) Tryd.underlying9 s (a : Int) (k : Int) (by omega) (by omega) (by omega) W
      simp only [Int.toNat_natCast] at hd
      have hdat := Lib.extract_data s a k
      obtain ⟨t, ht⟩ : ∃ t, t = s.extract a k := ⟨_, rfl⟩
      rw [← ht] at hd hdat
      clear ht
      by_cases hend : k = s.size
      · have e2 : ((k : Int) == (s.size : Int)) = true := beq_iff_eq.2 (by omega)
        have HN : Hid (OnPart s.data.toList (M ++ [t.data.toList]) (k + 1) (k + 1)) := by
          have := onPart_end (by have := HP.out; rwa [hend, Lib.size_eq] at this) (k + 1)
          rw [hdat, hend, Lib.size_eq]
          rw [hend, Lib.size_eq] at this
          exact this
        clear hdat hend HP
        go_wp2_with (at_builtin; refine wpList_append_txt rfl _ _ rfl HO.out hB rfl rfl hol ?_)
        intro v' w2 hown' hb2
        have HO2 := Lib.hid hown'; clear hown'
        go_wp2_with fail
        go_roundw
        case rel => exact ⟨_, k + 1, k + 1, by omega, by go_num, by go_num, by rw [List.length_append]; exact Nat.add_le_add_right hml 1, HN.out, HO2.out, hb2⟩
        case measure => simp [intOf]; omega
      · have hlt2 : k < s.size := by omega
        have e2 : ((k : Int) == (s.size : Int)) = false := beq_eq_false_iff_ne.2 (by omega)
        have hll : k < s.data.toList.length := by rw [← Lib.size_eq]; exact hlt2
        by_cases b47 : s[k] = 47
        · have c1 : ((s[k].toNat : Int) == 47) = true := by rw [b47]; rfl
          have HN : Hid (OnPart s.data.toList (M ++ [t.data.toList]) (k + 1) (k + 1)) := by
            rw [hdat]; exact onPart_cut HP.out hll (by rw [getE_list s k hlt2]; exact b47)
          clear hdat hend HP b47
          go_wp2_with (at_builtin; refine wpList_append_txt rfl _ _ rfl HO.out hB rfl rfl hol ?_)
          intro v' w2 hown' hb2
          have HO2 := Lib.hid hown'; clear hown'
          go_wp2_with fail
          go_roundw
          case rel => exact ⟨_, k + 1, k + 1, by omega, by go_num, by go_num, by rw [List.length_append]; exact Nat.add_le_add_right hml 1, HN.out, HO2.out, hb2⟩
          case measure => simp [intOf]; omega
        · have c1 : ((s[k].toNat : Int) == 47) = false := byte_ne (n := 47) (by decide) b47
          have HN : Hid (OnPart s.data.toList M a (k + 1)) := onPart_step HP.out hll (by rw [getE_list s k hlt2]; exact b47)
          clear hdat hend HP b47 hd
          go_wp2_with fail
          go_roundw
          case rel => exact ⟨_, a, k + 1, by omega, rfl, by go_num, by omega, HN.out, HO.out, hB⟩
          case measure => simp [intOf]; omega
    · obtain rfl : k = s.size + 1 := by omega
      have e1 : decide (((s.size + 1 : Nat) : Int) ≤ (s.size : Int)) = false := decide_eq_false (by omega)
      have hM : M = pts s.data.toList := onPart_fin (by have := HP.out; rwa [Lib.size_eq] at this)
      have HST := Lib.hid (by have := HO.out.strs; rw [hM] at this; exact this)
      clear hM HP HO
      go_wp2
      go_ret
      exact ⟨_, rfl, HST.out, hB⟩
end Go.Proofs.YtkodbobjaejgjaaDoor

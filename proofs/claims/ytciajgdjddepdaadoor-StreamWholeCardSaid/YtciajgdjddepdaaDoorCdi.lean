/-
  Contracts over this translation: cdc.hashes, an iterator over the hashes from a place on.
-/
import Derived.RegionTactic
import Derived.BigRegionIn
import Derived.Sort.CutIn
import Derived.ChangeAlike
import Derived.RangeFuncFrom
import Derived.RangeFuncBox
import Derived.Outline
import Derived.Test.YtciajgdjddepdaaDoorCdw
import Derived.Test.YtciajgdjddepdaaDoorGeu
set_option linter.unusedVariables false
namespace Go.Proofs.YtciajgdjddepdaaDoor
open Go.RowKit Go.Shelf
attribute [local go_sem] Oper.semAt_some

theorem hashes_any (s : ByteArray) (p : Int) (w : World) :
    Calls Tryd.prog 33 #[.string s, .int .i64 p] w fun e w' => e = .returned (.func (.func 39) #[] #[.pointer (some ⟨w.heap.size + 1, 0, none⟩), .pointer (some ⟨w.heap.size, 0, none⟩)]) ∧ w' = (w.alloc (.cells #[.string s] 9)).alloc (.cells #[.int .i64 p] 3) := by
  go_enter Tryd.func33, Tryd.ntmps33
  go_wp2
  go_ret
  exact ⟨by simp, rfl⟩

/-- A place and a hash. -/
abbrev At : Type := { x : Nat × Nat // x.1 < maxLen ∧ x.2 < M64 }
abbrev encH (x : At) : Array Value := #[.int .i64 (x.1.1 : Nat), .int .u64 (x.1.2 : Nat)]
def atsOf (l : List At) : List (Nat × Nat) := l.map (·.1)
theorem atsOf_snoc (l : List At) (x : At) : atsOf (l ++ [x]) = atsOf l ++ [x.1] := by simp [atsOf]
theorem atsOf_len (l : List At) : (atsOf l).length = l.length := List.length_map ..
/-- A round keeps the box. -/
def KeepsBox (B : Nat) (t : TypeId) (v : Value) (W W' : World) : Prop := Boxed W B t v → Boxed W' B t v

theorem upTo_on (s : ByteArray) (p j : Nat) (h0 : p ≤ j) (h : j < s.size) :
    (hs p (s.data.toList.drop p)).take (j + 1 - p) = (hs p (s.data.toList.drop p)).take (j - p) ++ [(j, rollN (hashF 0 ((s.data.toList.drop p).take (j - p))) (s[j]'h).toNat)] ∧ hashF 0 ((s.data.toList.drop p).take (j + 1 - p)) = rollN (hashF 0 ((s.data.toList.drop p).take (j - p))) (s[j]'h).toNat := by
  have hl : j - p < (s.data.toList.drop p).length := by rw [List.length_drop, ← Lib.size_eq]; omega
  have e1 : j + 1 - p = j - p + 1 := by omega
  have hx : (s.data.toList.drop p).take (j - p + 1) = (s.data.toList.drop p).take (j - p) ++ [s[j]'h] := by
    rw [List.take_succ_eq_append_getElem hl]
    congr 2
    simp only [List.getElem_drop]
    have : p + (j - p) = j := by omega
    simp only [this]; rfl
  have h2 : hashF 0 ((s.data.toList.drop p).take (j - p + 1)) = rollN (hashF 0 ((s.data.toList.drop p).take (j - p))) (s[j]'h).toNat := by rw [hx, hashF_snoc]
  rw [e1]
  refine ⟨?_, h2⟩
  have := hs_snoc p (s.data.toList.drop p) (j - p) hl
  rw [hs_take, hs_take, this, h2, show p + (j - p) = j by omega]

set_option maxHeartbeats 1000000 in
set_option maxRecDepth 100000 in
theorem hashes1_stops (n : Nat) (hn : 1 ≤ n) (Bs Bf : Nat) (s : ByteArray) (p : Nat) (hsz : s.size ≤ maxLen) (hp : p ≤ maxLen) (w : World) (hB : Boxed w Bs 9 (.string s)) (hF : Boxed w Bf 3 (.int .i64 p)) :
    SeqStopsK Fence.wide n Tryd.prog 39 #[.pointer (some ⟨Bf, 0, none⟩), .pointer (some ⟨Bs, 0, none⟩)] encH (KeepsBox Bs 9 (.string s)) (fun xs => atsOf xs = hs p (s.data.toList.drop p)) (fun pre => atsOf pre <+: hs p (s.data.toList.drop p)) (hs p (s.data.toList.drop p)).length w := fun l J Jx W hW hJ hJx hY h0 => by
  unfold maxLen at hsz hp
  have hb1 : Boxed W Bs 9 (.string s) := (hW.block Bs hB.lt).trans hB
  have hf1 : Boxed W Bf 3 (.int .i64 p) := (hW.block Bf hF.lt).trans hF
  have hc1 := hb1.cell
  have hc2 := hf1.cell
  have HS := Lib.hid (Lib.size_eq s)
  have hro : Fence.wide.round = none := rfl
  refine callsIn_of_wp Tryd.func39 rfl trivial ?_ hro
  simp only [Tryd.ntmps39, List.size_toArray, List.length_cons, List.length_nil, Nat.reduceAdd, Nat.reduceSub, Array.replicate_succ, Array.replicate_zero, List.push_toArray, List.append_toArray, List.nil_append, List.cons_append]
  gi_wp2
  gi_loopw [4, 5] (fun h i wr => ∃ j : Nat, p ≤ j ∧ (j = p ∨ j ≤ s.size) ∧ i = .int .i64 j ∧ h = .int .u64 (hashF 0 ((s.data.toList.drop p).take (j - p)) : Nat) ∧ (∃ pre, atsOf pre = (hs p (s.data.toList.drop p)).take (j - p) ∧ J pre wr) ∧ Boxed wr Bs 9 (.string s))
    (fun _ i _ => s.size - (intOf i).toNat)
  case atStart =>
    exact ⟨p, Nat.le_refl _, .inl rfl, rfl, by simp [hashF], ⟨[], by simp [atsOf], h0⟩, hb1⟩
  case round =>
    obtain ⟨j, hk1, hk2, rfl, rfl, ⟨pre, hpre, hJs⟩, hbx⟩ := hrel
    have HPRE := Lib.hid hpre
    clear hpre
    have hcx := hbx.cell
    by_cases hlt : j < s.size
    · obtain ⟨hup, hv⟩ := upTo_on s p j hk1 hlt
      have hY1 := hY _ (⟨(j, rollN (hashF 0 ((s.data.toList.drop p).take (j - p))) (s[j]'hlt).toNat), by unfold maxLen; show j < _; omega, rollN_lt _ _⟩ : At) wr hJs (by rw [← atsOf_len, HPRE.out, List.length_take, hs_len, List.length_drop, ← HS.out]; omega)
      have HUP : Hid (atsOf (pre ++ [(⟨(j, rollN (hashF 0 ((s.data.toList.drop p).take (j - p))) (s[j]'hlt).toNat), by unfold maxLen; show j < _; omega, rollN_lt _ _⟩ : At)]) = (hs p (s.data.toList.drop p)).take (j + 1 - p)) := by rw [atsOf_snoc, HPRE.out, hup]; exact rfl
      obtain ⟨pre2, hpre2⟩ : ∃ pre2, pre2 = pre ++ [(⟨(j, rollN (hashF 0 ((s.data.toList.drop p).take (j - p))) (s[j]'hlt).toNat), by unfold maxLen; show j < _; omega, rollN_lt _ _⟩ : At)] := ⟨_, rfl⟩
      rw [← hpre2] at hY1 HUP
      have HV := Lib.hid hv
      clear hpre2
      clear hup hv hY
      obtain ⟨fn, tmps, assign, body, hy, hR⟩ := hY1
      simp only [encH] at hy
      have RO := fun W => Roll_any (hashF 0 ((s.data.toList.drop p).take (j - p))) (s[j]'hlt) W
      obtain ⟨hn, hhn⟩ : ∃ hn, hn = hashF 0 ((s.data.toList.drop p).take (j - p)) := ⟨_, rfl⟩
      rw [← hhn] at HV RO hy ⊢
      obtain ⟨hm, hhm⟩ : ∃ hm, hm = rollN hn (s[j]'hlt).toNat := ⟨_, rfl⟩
      rw [← hhm] at HV RO hy
      have R := Lib.hid RO
      have HM := Lib.hid hhm; have HN := Lib.hid hhn
      clear hhm hhn RO hk2
      gi_wp2_with (refine ⟨trivial, ?_⟩; gi_at_call 40; refine (callsIn_wide.2 (R.out _)).mono ?_; rintro e w1 ⟨rfl, rfl⟩)
      refine hR.mono ?_
      rintro e W3 (⟨rfl, hJ3, hk3⟩ | ⟨rfl, hJx3⟩)
      · gi_wp2
        go_roundw
        case rel => exact ⟨j + 1, by omega, .inr (by omega), by go_num, by rw [HV.out], ⟨_, HUP.out, hJ3⟩, hk3 hbx⟩
        case measure => simp [intOf]; omega
      · gi_wp2
        refine bodyPost_ret (results_none rfl _ _ _) rfl ?_
        exact ⟨⟨_, rfl⟩, .inr ⟨_, by rw [HUP.out]; exact List.take_prefix _ _, hJx3⟩⟩
    · have hall : (hs p (s.data.toList.drop p)).take (j - p) = hs p (s.data.toList.drop p) := List.take_of_length_le (by rw [hs_len, List.length_drop, ← HS.out]; omega)
      have HALL := Lib.hid hall; clear hall hY
      gi_wp2
      go_end0
      exact ⟨⟨_, rfl⟩, .inl ⟨_, HPRE.out.trans HALL.out, hJs⟩⟩
end Go.Proofs.YtciajgdjddepdaaDoor

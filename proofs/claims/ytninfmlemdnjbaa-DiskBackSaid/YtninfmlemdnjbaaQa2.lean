/-
  Texts put together: contracts and laws that this seat's proofs share.
-/
import Derived.Test.YtninfmlemdnjbaaYaDlc
import Derived.OwnWalk
import Derived.Test.YtninfmlemdnjbaaQa1
import Derived.RegionTactic
import Derived.BigRegion
import Derived.Test.YtninfmlemdnjbaaQa0
import Derived.Deep.RegionLaw
import Derived.Maps.AppendAt
set_option linter.unusedVariables false
namespace Go.Proofs.Ytninfmlemdnjbaa
open Go.RowKit
attribute [local go_sem] Oper.semAt_some
theorem zerosD_one {n : Nat} : ∀ u ∈ (Builtin.zeroCells (dfrV zeroDfr).cells n).toList, u.oneCell' = true := by
  intro u hu
  simp only [Builtin.zeroCells, Array.toList_map, List.mem_map] at hu
  obtain ⟨k, _, rfl⟩ := hu
  have h4 : k % 3 < 3 := Nat.mod_lt _ (by decide)
  show (((dfrV zeroDfr).cells)[k % 3]!).oneCell' = true
  rcases (show k % 3 = 0 ∨ k % 3 = 1 ∨ k % 3 = 2 by omega) with e | e | e <;> rw [e] <;> rfl
theorem grownBy_setRow_Dlc (w : World) (g : Nat) (C : Array Value) : w.grownBy (w.setRow g C) (some g) :=
  ⟨rfl, rfl, rfl, by simp, fun k hk hr => setRow_other w g k C (fun e => hr (by rw [e]))⟩
theorem grown_trans_Dld {a b c : World} {row : Option Nat} (h : a.grownBy b row) (k : b.grownBy c row) : a.grownBy c row :=
  ⟨k.os.trans h.os, k.tape.trans h.tape, k.output.trans h.output, Nat.le_trans h.size k.size, fun i hi hr => (k.block i (Nat.lt_of_lt_of_le hi h.size) hr).trans (h.block i hi hr)⟩
theorem run_clear_row_Dlc {P : Program} (w : World) (t e ty : TypeId) (z : Value) (ht : P.underlying t = some (.slice e)) (hv : ∀ w, (zeroValue e).run P w = .ok z w) (g off n c : Nat) (hn : 0 < n) (cur : Array Value) (tt : TypeId)
    (hg : w.heap[g]? = some (.cells cur tt (0, 0))) (zs : List Value) (hzs : zs = (Builtin.zeroCells z.cells n).toList) (hfit : off + zs.length ≤ cur.size) (h1 : ∀ u ∈ zs, u.oneCell' = true) :
    (Builtin.clear_ #[t] ty #[.slice (some ⟨g, off, none⟩) n c]).run P w = .ok (.tuple #[]) (w.setRow g (cur.toList.take off ++ zs ++ cur.toList.drop (off + zs.length)).toArray) := by
  have hst := run_storeCells_at P g off tt zs 0 cur w hg (by simpa using hfit) h1
  simp only [Nat.add_zero] at hst
  obtain ⟨m, rfl⟩ : ∃ m, n = m + 1 := ⟨n - 1, by omega⟩
  subst hzs
  simp only [Builtin.clear_, List.getElem?_toArray, List.getElem?_cons_zero, Sem.run_bind, run_underlying ht, Result.andThen_ok, hv, hst, Sem.run_pure]
theorem ownD_clear {B : Nat} {w : World} {g n cap m : Nat} {K : List Dfr} (h : OwnD B w (.slice (some ⟨g, 0, none⟩) n cap) K) (hm : 0 < m) (hc : n + m ≤ cap) :
    ∃ C, (∀ ty c, (Builtin.clear_ #[22] ty #[.slice (some ⟨g, n * 3, none⟩) m c]).run Try.prog w = .ok (.tuple #[]) (w.setRow g C)) ∧
      OwnD B (w.setRow g C) (.slice (some ⟨g, 0, none⟩) n cap) K ∧ w.grownBy (w.setRow g C) (some g) := by
  rcases h.2 with ⟨h0, _⟩ | ⟨g', cap', cur, h1, h2, h3, h4, h5, h6, h7⟩
  · cases h0
  cases h1
  obtain ⟨zs, hzs⟩ : ∃ zs, zs = (Builtin.zeroCells (dfrV zeroDfr).cells m).toList := ⟨_, rfl⟩
  have hzl : zs.length = m * 3 := by rw [hzs, Array.length_toList, size_zeroCells]; rfl
  refine ⟨_, fun ty c => run_clear_row_Dlc w _ 47 ty (dfrV zeroDfr) Try.underlying22 Try.zeroValue47 g (K.length * 3) m c hm cur 47 h3 zs hzs (by omega) (by rw [hzs]; exact zerosD_one), ?_, grownBy_setRow_Dlc _ _ _⟩
  refine ⟨h.1, .inr ⟨g, cap, _, rfl, h2, setRow_heap w g cur _ _ (0, 0) h3, by omega, h5, ?_, ?_⟩⟩
  · simp only [List.size_toArray, List.length_append, List.length_take, List.length_drop, Array.length_toList]; omega
  · have hl2 : (cur.toList.take (K.length * 3)).length = K.length * 3 := by rw [List.length_take, Array.length_toList (xs := cur)]; omega
    show List.take _ (cur.toList.take (K.length * 3) ++ zs ++ _) = _
    rw [List.append_assoc, List.take_left' hl2]; exact h7
def DelD (B : Nat) (vs : Value) (L : List Dfr) (w : World) (e : Ending) (w' : World) : Prop := ∃ v', e = .returned v' ∧ OwnD B w' v' L ∧ w.grownBy w' vs.ownBlock ∧ v'.ownBlock = vs.ownBlock
set_option maxRecDepth 100000 in
set_option maxHeartbeats 4000000 in
theorem dDelete_any (B : Nat) (vs : Value) (L : List Dfr) (i : Nat) (w : World) (hown : OwnD B w vs L) (hi : i < L.length) (hL : L.length ≤ 1000) (hB : B ≤ w.heap.size) :
    Calls Try.prog 68 #[vs, .int .i64 i, .int .i64 ((i : Int) + 1)] w (DelD B vs (L.take i ++ L.drop (i + 1)) w) := by
  rcases hown.2 with ⟨_, h0⟩ | ⟨g, cap, cur, rfl, hbg, hg, hle, hm, hcs, ht⟩
  · omega
  have hmm : cap ≤ 9223372036854775807 := by unfold maxLen at hm; omega
  obtain ⟨i0, hi0, hz0, hz1, hz2⟩ := info_parts infoDf
  have htl : (L.take i).length = i := by rw [List.length_take]; omega
  have HC : Hid (OwnD B w (.slice (some ⟨g, 0, none⟩) i cap) (L.take i)) := Lib.hid (by
    refine ⟨dfrCells_len _, .inr ⟨g, cap, cur, by rw [htl], hbg, hg, by omega, hm, hcs, ?_⟩⟩
    rw [htl]
    have h8 : cur.toList.take (i * 3) = (cur.toList.take (L.length * 3)).take (i * 3) := by rw [List.take_take]; congr 1; omega
    rw [h8, ht]
    conv => lhs; rw [← List.take_append_drop i L, dfrCells_app]
    exact List.take_left' (by rw [dfrCells_len, htl]))
  have HOC : Hid (∀ W : World, W.heap[g]? = w.heap[g]? → OwnD B W (.slice (some ⟨g, 0, none⟩) i cap) (L.take i)) := Lib.hid fun (W : World) (hW : W.heap[g]? = w.heap[g]?) => by
    have h := HC.out
    rcases h.2 with ⟨h0, _⟩ | ⟨g', cap', cur', h1, h2, h3, h4⟩
    · cases h0
    · simp only [Value.slice.injEq, Option.some.injEq, Addr.mk.injEq, and_true] at h1
      obtain ⟨rfl, _, rfl⟩ := h1
      exact ⟨h.1, .inr ⟨g, cap, cur', by rw [htl], h2, hW.trans h3, h4⟩⟩
  obtain ⟨N, hN⟩ : ∃ N, N = L.drop (i + 1) := ⟨_, rfl⟩
  have hNl : N.length = L.length - (i + 1) := by rw [hN, List.length_drop]
  have HS : Hid (∀ W : World, W.heap[g]? = w.heap[g]? → ∀ j v, (dfrCells N)[j]? = some v → W.cell? ((⟨g, (i + 1) * 3, none⟩ : Addr).add j) = some v) := Lib.hid fun (W : World) (hW : W.heap[g]? = w.heap[g]?) (j : Nat) (v : Value) hj => by
    rw [add_plain']
    have hc : w.cell? ⟨g, (i + 1) * 3 + j, none⟩ = some v := by
      rw [cell_of_row w g _ cur _ (0, 0) hg]
      have h1 : (dfrCells L)[(i + 1) * 3 + j]? = some v := by
        conv => lhs; rw [← List.take_append_drop (i + 1) L, dfrCells_app]
        have hl : (dfrCells (L.take (i + 1))).length = (i + 1) * 3 := by rw [dfrCells_len, List.length_take]; congr 1; omega
        rw [List.getElem?_append_right (by omega), hl, show (i + 1) * 3 + j - (i + 1) * 3 = j by omega, ← hN]; exact hj
      rw [← ht, List.getElem?_take] at h1
      split at h1
      · simpa using h1
      · cases h1
    rw [World.cell?_of_block (w := w) hW]; exact hc
  have HLN : Hid ((dfrCells N).length = N.length * 3) := Lib.hid (dfrCells_len N)
  have HHI := Lib.hid hi0; have HZ1 := Lib.hid hz1
  obtain ⟨m, hmN⟩ : ∃ m, m = L.length - (i + 1) := ⟨_, rfl⟩
  have hNm : N.length = m := by omega
  have HNM := Lib.hid hNm
  obtain ⟨n, hn⟩ : ∃ n, n = L.length := ⟨_, rfl⟩
  rw [← hn] at hi hL hle hmN
  rw [← hn]
  have HTL := Lib.hid htl
  have HAPP : Hid (L.take i ++ L.drop (i + 1) = L.take i ++ N) := Lib.hid (by rw [hN])
  clear hown hcs ht hm hg HC hN hNl hNm hi0 hz0 hz1 hz2 hn htl
  have e1 : ((i : Int) == (i : Int) + 1) = false := beq_eq_false_iff_ne.2 (by omega)
  have s1 : (0 : Int) ≤ (i : Int) + 1 := by omega
  have s2 : ((i : Int) + 1).toNat = i + 1 := by omega
  have s4 : (i : Int) + 1 ≤ (n : Int) := by omega
  have s5 : (i : Int) ≤ (i : Int) + 1 := by omega
  have s6 : (i : Int) ≤ (n : Int) := by omega
  have s7 : ¬ (cap = i) := by omega
  have s8 : (i : Int) ≤ (cap : Int) := by omega
  go_enter Try.func68, Try.ntmps68
  go_wp2_with fail
  go_still_tail 6, (by kernel_rfl)
  change wpList _ _ _ _ _ w.drew
  have HFIN : Hid (∀ w', OwnD B w' (.slice (some ⟨g, 0, none⟩) (i + m) cap) (L.take i ++ N) → w.grownBy w' (some g) → ∃ C, (∀ ty c, (Builtin.clear_ #[22] ty #[.slice (some ⟨g, (i + m) * 3, none⟩) 1 c]).run Try.prog w' = .ok (.tuple #[]) (w'.setRow g C)) ∧
      OwnD B (w'.setRow g C) (.slice (some ⟨g, 0, none⟩) (i + m) cap) (L.take i ++ N) ∧ w.grownBy (w'.setRow g C) (some g)) := Lib.hid fun w' h1 h2 => by
    obtain ⟨C, c1, c2, c3⟩ := ownD_clear (m := 1) h1 (by omega) (by omega)
    exact ⟨C, c1, c2, grown_trans_Dld h2 c3⟩
  have him : i + m < cap := by omega
  have HMN := Lib.hid hmN
  clear hmN
  have HQO : Hid (w.drew.ownsRow B 47 3 (.slice (some ⟨g, 0, none⟩) i cap) i (dfrCells (L.take i))) := Lib.hid (by have h := HOC.out w.drew rfl; unfold OwnD at h; rw [HTL.out] at h; exact h)
  have HQL : Hid ((dfrCells N).length = (n - (i + 1)) * 3) := Lib.hid (by rw [HLN.out, HNM.out, HMN.out])
  have hroom : i + (n - (i + 1)) ≤ cap := by omega
  have HQS := Lib.hid (HS.out w.drew rfl)
  have HQN : Hid (cap = i + 1 → ∀ (ad : Addr) (j : Nat) (u : Value), (dfrCells N)[j]? = some u → w.drew.cell? (ad.add j) = some u) := Lib.hid fun hcap ad j u hj => by
    have hjl := (List.getElem?_eq_some_iff.1 hj).1
    have := HQL.out; omega
  clear HS HOC
  by_cases hcap : cap = i + 1
  · obtain rfl : n = i + 1 := by omega
    subst hcap
    have HM0 : Hid (m = 0) := Lib.hid (by have := HMN.out; omega)
    have HNIL : Hid (N = []) := Lib.hid (List.eq_nil_of_length_eq_zero (by rw [HNM.out, HM0.out]))
    have HFI0 : Hid (∀ w', OwnD B w' (.slice (some ⟨g, 0, none⟩) i (i + 1)) (L.take i) → w.grownBy w' (some g) → ∃ C, (∀ (ty : TypeId) (c : Nat), (Builtin.clear_ #[22] ty #[.slice (some ⟨g, i * 3, none⟩) 1 c]).run Try.prog w' = .ok (.tuple #[]) (w'.setRow g C)) ∧
      OwnD B (w'.setRow g C) (.slice (some ⟨g, 0, none⟩) i (i + 1)) (L.take i) ∧ w.grownBy (w'.setRow g C) (some g)) := Lib.hid (by
        have h := HFIN.out
        rw [HM0.out, HNIL.out, Nat.add_zero, List.append_nil] at h
        exact h)
    clear HFIN him HQS HQL
    go_wp2_with (at_builtin; rw [if_pos rfl]; refine wpList_append_fits_any (o := ⟨some 26, _, _, _, _, _⟩) _ rfl (.tmp 22) (.tmp 25) 22 rfl B 47 i0 3 Try.underlying22 HHI.out HZ1.out g i (i + 1) (dfrCells (L.take i)) rfl HQO.out (some ⟨g, 0, none⟩) _ _ [] rfl (by simp) (fun h => by cases h) (fun ad e j u hj => by simp at hj) (fun u hu => by simp at hu) (by omega) ?_)
    intro w' h1 h2
    obtain ⟨C, c1, c2, c3⟩ := HFI0.out w' (show OwnD B w' _ _ by unfold OwnD; rw [HTL.out]; simpa using h1) ⟨h2.os, h2.tape, h2.output, h2.size, h2.block⟩
    have HC2 := Lib.hid c2; have HC3 := Lib.hid c3
    have t3 : i + 1 - i = 1 := by omega
    clear h1 h2 c2 c3
    go_wp2
    go_ret
    exact ⟨_, rfl, by rw [HAPP.out, HNIL.out, List.append_nil]; exact HC2.out, HC3.out, rfl⟩
  · go_wp2_with (at_builtin; rw [if_neg hcap]; refine wpList_append_fits_any (o := ⟨some 26, _, _, _, _, _⟩) _ rfl (.tmp 22) (.tmp 25) 22 rfl B 47 i0 3 Try.underlying22 HHI.out HZ1.out g i cap (dfrCells (L.take i)) rfl HQO.out (some ⟨g, (i + 1) * 3, none⟩) (n - (i + 1)) (cap - (i + 1)) (dfrCells N) rfl HQL.out (fun h => by cases h) (fun ad e j u hj => by cases e; exact HQS.out j u hj) (fun u hu => dfrCells_one hu) hroom ?_)
    intro w' h1 h2
    rw [← HMN.out] at h1
    obtain ⟨C, c1, c2, c3⟩ := HFIN.out w' (show OwnD B w' _ _ by unfold OwnD; rw [dfrCells_app, List.length_append, HTL.out, HNM.out]; exact h1) ⟨h2.os, h2.tape, h2.output, h2.size, h2.block⟩
    have HC2 := Lib.hid c2; have HC3 := Lib.hid c3
    have t1 : n - (i + 1) = m := HMN.out.symm
    have t3 : n - (i + m) = 1 := by have := HMN.out; omega
    have t4 : ((i : Int) + ((n - (i + 1) : Nat) : Int)) = ((i + m : Nat) : Int) := by rw [t1]; omega
    have t5 : ((i + m : Nat) : Int) ≤ (n : Int) := by have := HMN.out; omega
    clear h1 h2 c2 c3
    rw [t1]
    go_wp2
    go_ret
    exact ⟨_, rfl, by rw [HAPP.out]; exact HC2.out, HC3.out, rfl⟩
section
variable {St : Dfr → Dfl → Prop}
theorem RowsS.take : ∀ {R : List Dfr} {L : List Dfl} (h : RowsS St R L) (k : Nat), RowsS St (R.take k) (L.take k)
  | [], [], _, k => by simp [RowsS]
  | _ :: _, _ :: _, h, 0 => trivial
  | _ :: _, _ :: _, h, k + 1 => ⟨h.1, RowsS.take h.2 k⟩
  | [], _ :: _, h, _ => h.elim
  | _ :: _, [], h, _ => h.elim
theorem RowsS.drop : ∀ {R : List Dfr} {L : List Dfl} (h : RowsS St R L) (k : Nat), RowsS St (R.drop k) (L.drop k)
  | [], [], _, k => by simp [RowsS]
  | _ :: _, _ :: _, h, 0 => h
  | _ :: _, _ :: _, h, k + 1 => RowsS.drop h.2 k
  | [], _ :: _, h, _ => h.elim
  | _ :: _, [], h, _ => h.elim
theorem RowsS.app : ∀ {R R' : List Dfr} {L L' : List Dfl} (h : RowsS St R L) (h' : RowsS St R' L'), RowsS St (R ++ R') (L ++ L')
  | [], _, [], _, _, h' => h'
  | _ :: _, _, _ :: _, _, h, h' => ⟨h.1, RowsS.app h.2 h'⟩
  | [], _, _ :: _, _, h, _ => h.elim
  | _ :: _, _, [], _, h, _ => h.elim
theorem RowsS.names (hn : ∀ r x, St r x → r.n = x.n) : ∀ {R : List Dfr} {L : List Dfl} (h : RowsS St R L), R.map Dfr.t = L.map Dfl.t
  | [], [], _ => rfl
  | _ :: _, _ :: _, h => by
    rw [List.map_cons, List.map_cons, RowsS.names hn h.2]
    congr 1
    unfold Dfr.t Dfl.t; rw [hn _ _ h.1]
  | [], _ :: _, h => h.elim
  | _ :: _, [], h => h.elim
end
def cntF (L : List Dfl) (t : Txt) : Nat := (L.takeWhile fun y => decide (y.t < t)).length
theorem cntF_le (L : List Dfl) (t : Txt) : cntF L t ≤ L.length := (List.takeWhile_sublist _).length_le
theorem takeW_all {t : Txt} : ∀ {L : List Dfl} (x : Dfl), x ∈ L.takeWhile (fun y => decide (y.t < t)) → x.t < t
  | [], x, h => by simp at h
  | y :: L, x, h => by
    by_cases hy : y.t < t
    · rw [List.takeWhile_cons_of_pos (by simpa using hy)] at h
      rcases List.mem_cons.1 h with rfl | h
      · exact hy
      · exact takeW_all x h
    · rw [List.takeWhile_cons_of_neg (by simpa using hy)] at h; cases h
theorem cntF_ahead {L : List Dfl} {t : Txt} : ∀ x ∈ L.take (cntF L t), x.t < t := by
  intro x hx
  have e : L.take (cntF L t) = L.takeWhile fun y => decide (y.t < t) := by
    unfold cntF
    conv => lhs; rw [← List.takeWhile_append_dropWhile (p := fun y => decide (y.t < t)) (l := L)]
    rw [List.takeWhile_append_dropWhile]
    exact (List.prefix_iff_eq_take.1 (List.takeWhile_prefix _)).symm
  rw [e] at hx
  exact takeW_all _ hx
theorem cntF_behind {L : List Dfl} {t : Txt} (h : cntF L t < L.length) : ¬ L[cntF L t].t < t := by
  induction L with
  | nil => simp at h
  | cons x L ih =>
    by_cases hx : x.t < t
    · have e : cntF (x :: L) t = cntF L t + 1 := by unfold cntF; simp [hx]
      have h' : cntF L t < L.length := by rw [e] at h; simpa using h
      simp only [e, List.getElem_cons_succ]
      exact ih h'
    · have e : cntF (x :: L) t = 0 := by unfold cntF; simp [hx]
      simp only [e, List.getElem_cons_zero]; exact hx
theorem cnt_names {R : List Dfr} {L : List Dfl} (h : R.map Dfr.t = L.map Dfl.t) (t : Txt) : cntR R t = cntF L t := by
  have e1 : cntR R t = ((R.map Dfr.t).takeWhile fun y => decide (y < t)).length := by unfold cntR; rw [List.takeWhile_map, List.length_map]; rfl
  have e2 : cntF L t = ((L.map Dfl.t).takeWhile fun y => decide (y < t)).length := by unfold cntF; rw [List.takeWhile_map, List.length_map]; rfl
  rw [e1, e2, h]
theorem get_names : ∀ {R : List Dfr} {L : List Dfl} (h : R.map Dfr.t = L.map Dfl.t) (t : Txt), (getR R t).isSome = (getF L t).isSome
  | [], [], _, _ => rfl
  | r :: R, x :: L, h, t => by
    rw [List.map_cons, List.map_cons] at h
    obtain ⟨h1, h2⟩ := List.cons.inj h
    have ih := get_names h2 t
    unfold getR getF at ih ⊢
    by_cases e : r.t = t
    · rw [List.find?_cons_of_pos (by simpa using e), List.find?_cons_of_pos (by rw [← h1]; simpa using e)]; rfl
    · rw [List.find?_cons_of_neg (by simpa using e), List.find?_cons_of_neg (by rw [← h1]; simpa using e)]; exact ih
  | [], _ :: _, h, _ => by simp at h
  | _ :: _, [], h, _ => by simp at h
theorem rise_names {R : List Dfr} {L : List Dfl} (h : R.map Dfr.t = L.map Dfl.t) (hr : L.Pairwise fun x y => x.t < y.t) : RiseR R := by
  have : (R.map Dfr.t).Pairwise (· < ·) := by rw [h]; exact List.pairwise_map.2 hr
  exact List.pairwise_map.1 this
theorem getF_cnt {L : List Dfl} (hr : L.Pairwise fun x y => x.t < y.t) (t : Txt) : (∃ h : cntF L t < L.length, L[cntF L t].t = t ∧ getF L t = some L[cntF L t]) ∨ (getF L t = none ∧ ∀ h : cntF L t < L.length, t < L[cntF L t].t) := by
  cases hg : getF L t with
  | none =>
    refine .inr ⟨rfl, fun h => ?_⟩
    have h1 := cntF_behind h
    have h2 := getF_none.1 hg _ (List.getElem_mem h)
    exact Classical.byContradiction fun c => h2 (t_tri _ _ h1 c)
  | some f =>
    obtain ⟨h1, h2⟩ := (getF_some hr).1 hg
    obtain ⟨i, hi, rfl⟩ := List.getElem_of_mem h1
    have hic : i = cntF L t := by
      rcases Nat.lt_trichotomy i (cntF L t) with c | c | c
      · have hm : L[i] ∈ L.take (cntF L t) := List.mem_take_iff_getElem.2 ⟨i, by omega, rfl⟩
        have := cntF_ahead _ hm
        rw [h2] at this; exact absurd this (t_irrefl _)
      · exact c
      · have hl : cntF L t < L.length := by omega
        have h3 := List.pairwise_iff_getElem.1 hr _ _ hl hi c
        rw [h2] at h3; exact absurd h3 (cntF_behind hl)
    subst hic
    exact .inl ⟨hi, h2, rfl⟩
theorem lessF_at {L : List Dfl} (hr : L.Pairwise fun x y => x.t < y.t) {k : Nat} (hk : k < L.length) {t : Txt} (ht : L[k].t = t) : lessF L t = L.take k ++ L.drop (k + 1) := by
  have e : L = L.take k ++ L[k] :: L.drop (k + 1) := by rw [List.getElem_cons_drop, List.take_append_drop]
  have hp := hr
  rw [e, List.pairwise_append] at hp
  obtain ⟨_, h2, h3⟩ := hp
  obtain ⟨h4, _⟩ := List.pairwise_cons.1 h2
  obtain ⟨x, hx⟩ : ∃ x, x = L[k] := ⟨_, rfl⟩
  rw [← hx] at e h3 h4 ht
  subst ht
  unfold lessF
  conv => lhs; rw [e]
  rw [List.filter_append, List.filter_cons_of_neg (by simp), List.filter_eq_self.2, List.filter_eq_self.2]
  · intro y hy
    simp only [decide_eq_true_eq]
    exact fun c => t_irrefl y.t (by have := h4 y hy; rwa [← c] at this)
  · intro y hy
    simp only [decide_eq_true_eq]
    exact fun c => t_irrefl y.t (by have := h3 y hy _ (List.mem_cons_self ..); rwa [← c] at this)
theorem withF_at {L : List Dfl} (hr : L.Pairwise fun x y => x.t < y.t) {f : Dfl} (hn : getF L f.t = none) : withF L f = L.take (cntF L f.t) ++ f :: L.drop (cntF L f.t) := by
  conv => lhs; rw [← List.take_append_drop (cntF L f.t) L]
  rw [withF_app cntF_ahead]
  congr 1
  rcases getF_cnt hr f.t with ⟨h, _, h2⟩ | ⟨_, h⟩
  · rw [h2] at hn; cases hn
  · by_cases hl : cntF L f.t < L.length
    · rw [← List.getElem_cons_drop hl]
      have h1 := h hl
      show (if _ then _ else if _ then _ else _) = _
      rw [if_neg (t_asymm h1), if_neg (fun c => t_irrefl f.t (by rwa [c] at h1))]
    · rw [List.drop_of_length_le (by omega)]; rfl
def RowP (B : Nat) (w : World) (r : Dfr) (x : Dfl) : Prop := r.n = x.n ∧ r.d = x.d ∧ OwnP15 B w (.slice r.a r.z r.c) x.ops
theorem RowP.stays {B : Nat} {w w' : World} {r : Dfr} {x : Dfl} (h : RowP B w r x) (hb : Below w.heap.size w w') : RowP B w' r x := ⟨h.1, h.2.1, h.2.2.stays hb⟩
theorem RowP.f {B : Nat} {w : World} {r : Dfr} {x : Dfl} (h : RowP B w r x) : RowF w r x := ⟨h.1, h.2.1, h.2.2.is⟩
theorem RowP.nil (B : Nat) (w : World) (n d : ByteArray) : RowP B w ⟨n, d, none, 0, 0⟩ ⟨n, d, []⟩ := ⟨rfl, rfl, ownP15_nil _ _⟩
theorem RowP.turn {B : Nat} {w w' : World} {r : Dfr} {x : Dfl} {row : Option Nat} (h : RowP B w r x) (hg : w.grownBy w' row) (hr : ∀ g, row = some g → ∃ xs T, Row w g xs T ∧ T ≠ 52) : RowP B w' r x :=
  ⟨h.1, h.2.1, h.2.2.grown hg (by
    cases hv : (Value.slice r.a r.z r.c).ownBlock with
    | none => exact .inl rfl
    | some k =>
      refine .inr fun e => ?_
      obtain ⟨xs, T, h1, h2⟩ := hr k e.symm
      obtain ⟨ys, h3⟩ := h.2.2.row hv
      unfold Row at h3
      rw [show w.heap[k]? = _ from h1] at h3
      cases h3; exact h2 rfl)⟩
def obk (r : Dfr) : Option Nat := (Value.slice r.a r.z r.c).ownBlock
def SepR (x y : Dfr) : Prop := ∀ g, obk x = some g → obk y ≠ some g
theorem SepR.symm {x y : Dfr} (h : SepR x y) : SepR y x := fun g h1 h2 => h g h2 h1
theorem sep_less {R : List Dfr} {k : Nat} (h : R.Pairwise SepR) (hk : k < R.length) : (R.take k ++ R.drop (k + 1)).Pairwise SepR ∧ ∀ y ∈ R.take k ++ R.drop (k + 1), SepR R[k] y := by
  have e : R = R.take k ++ R[k] :: R.drop (k + 1) := by rw [List.getElem_cons_drop, List.take_append_drop]
  obtain ⟨r, hr⟩ : ∃ r, r = R[k] := ⟨_, rfl⟩
  rw [← hr] at e ⊢
  rw [e, List.pairwise_append] at h
  obtain ⟨h1, h2, h3⟩ := h
  obtain ⟨h4, h5⟩ := List.pairwise_cons.1 h2
  refine ⟨List.pairwise_append.2 ⟨h1, h5, fun x hx y hy => h3 x hx y (List.mem_cons_of_mem _ hy)⟩, fun y hy => ?_⟩
  rcases List.mem_append.1 hy with hy | hy
  · exact (h3 y hy r (List.mem_cons_self ..)).symm
  · exact h4 y hy
theorem sep_with {R : List Dfr} {r : Dfr} (k : Nat) (h : R.Pairwise SepR) (hr : ∀ y ∈ R, SepR r y) : (R.take k ++ r :: R.drop k).Pairwise SepR := by
  have h0 := h
  rw [← List.take_append_drop k R, List.pairwise_append] at h0
  obtain ⟨h1, h2, h3⟩ := h0
  refine List.pairwise_append.2 ⟨h1, List.pairwise_cons.2 ⟨fun y hy => hr y (List.mem_of_mem_drop hy), h2⟩, fun x hx y hy => ?_⟩
  rcases List.mem_cons.1 hy with rfl | hy
  · exact (hr x (List.mem_of_mem_take hx)).symm
  · exact h3 x hx y hy
structure Mch (B kb : Nat) (w : World) (v : Value) (R : List Dfr) (d : Dsk) : Prop where
  row : Row w kb #[v, .bool d.off, .int .i64 d.fuse] 57
  own : OwnD B w v R
  rows : RowsS (RowP B w) R d.fs
  from_ : B ≤ kb
  sep : R.Pairwise SepR
theorem OwnD.row {B : Nat} {w : World} {v : Value} {L : List Dfr} (h : OwnD B w v L) {g : Nat} (hg : v.ownBlock = some g) : ∃ xs, Row w g xs 47 := by
  rcases h.2 with ⟨rfl, _⟩ | ⟨g', cap, cur, rfl, _, h5, _⟩
  · cases hg
  · cases hg; exact ⟨_, h5⟩
theorem OwnD.apart {B : Nat} {w : World} {v : Value} {L : List Dfr} (h : OwnD B w v L) {A : Nat} {xs : Array Value} {T : TypeId} (hA : Row w A xs T) (hT : T ≠ 47) : v.ownBlock ≠ some A := fun e => by
  obtain ⟨ys, hy⟩ := h.row e
  unfold Row at hy
  rw [show w.heap[A]? = _ from hA] at hy
  cases hy; exact hT rfl
section
variable {B kb : Nat} {w w' : World} {v : Value} {R : List Dfr} {d : Dsk}
theorem Mch.stays (h : Mch B kb w v R d) (hb : Below w.heap.size w w') : Mch B kb w' v R d := ⟨h.row.step hb, h.own.stays hb, h.rows.imp fun r x h => h.stays hb, h.from_, h.sep⟩
theorem Mch.names (h : Mch B kb w v R d) : R.map Dfr.t = d.fs.map Dfl.t := h.rows.names fun r x h => h.1
theorem Mch.apart (h : Mch B kb w v R d) : v.ownBlock ≠ some kb := h.own.apart h.row (by decide)
theorem Mch.grown (h : Mch B kb w v R d) (hg : w.grownBy w' v.ownBlock) : Row w' kb #[v, .bool d.off, .int .i64 d.fuse] 57 ∧ ∀ r x, RowP B w r x → RowP B w' r x :=
  ⟨by unfold Row; rw [hg.block kb h.row.lt (fun e => h.apart e.symm)]; exact h.row, fun r x hr => hr.turn hg fun g e => by
    obtain ⟨xs, hx⟩ := h.own.row e
    exact ⟨xs, _, hx, by decide⟩⟩
theorem Mch.below (h : OwnD B w v R) (hg : w.grownBy w' v.ownBlock) (hB : B ≤ w.heap.size) : Below B w w' := (Below.refl B w).grown hg hB (fun j hj => (World.ownsRow.lt h j hj).1)
theorem Mch.lt (h : Mch B kb w v R d) : kb < w.heap.size := h.row.lt
theorem Mch.cell (h : Mch B kb w v R d) : w.cell? ⟨kb, 0, none⟩ = some v ∧ w.cell? ⟨kb, 1, none⟩ = some (.bool d.off) ∧ w.cell? ⟨kb, 2, none⟩ = some (.int .i64 d.fuse) ∧ ∀ i, w.frozen? ⟨kb, i, none⟩ = false := by
  have p0 := h.row.cell 0; have p1 := h.row.cell 1; have p2 := h.row.cell 2
  simp only [List.getElem?_toArray, List.getElem?_cons_zero, List.getElem?_cons_succ] at p0 p1 p2
  exact ⟨p0, p1, p2, fun i => h.row.free i⟩
theorem grownBy_set_Dlh (w : World) (b i : Nat) (u : Value) : w.grownBy (w.setCell ⟨b, i, none⟩ u) (some b) :=
  ⟨rfl, rfl, rfl, by simp [World.setCell], fun k hk hr => Below.heap_setCell _ _ _ _ (fun e => hr (by rw [e]))⟩
theorem Mch.put0 {v' : Value} {R' : List Dfr} {fs : List Dfl} (h1 : Row w kb #[v, .bool d.off, .int .i64 d.fuse] 57) (hB : B ≤ kb) (h2 : OwnD B w v' R') (h3 : RowsS (RowP B w) R' fs) (h4 : R'.Pairwise SepR) : Mch B kb (w.setCell ⟨kb, 0, none⟩ v') v' R' ⟨fs, d.off, d.fuse⟩ := by
  have hg := grownBy_set_Dlh w kb 0 v'
  have ha := h2.apart h1 (by decide)
  refine ⟨by have := h1.set 0 v'; exact this, World.ownsRow.kept h2 hg (by cases hv : v'.ownBlock with | none => exact .inl rfl | some k => exact .inr (by rw [← hv]; exact ha)), h3.imp fun r x hr => hr.turn hg fun g e => by cases e; exact ⟨_, _, h1, by decide⟩, hB, h4⟩
theorem Mch.turnRow {xs : Array Value} (h : Mch B kb w v R d) (i : Nat) (u : Value) {off : Bool} {fuse : Int} (hx : Row (w.setCell ⟨kb, i, none⟩ u) kb #[v, .bool off, .int .i64 fuse] 57) : Mch B kb (w.setCell ⟨kb, i, none⟩ u) v R ⟨d.fs, off, fuse⟩ := by
  have hg := grownBy_set_Dlh w kb i u
  refine ⟨hx, World.ownsRow.kept h.own hg (by cases hv : v.ownBlock with | none => exact .inl rfl | some k => exact .inr (by rw [← hv]; exact h.apart)), h.rows.imp fun r x hr => hr.turn hg fun g e => by cases e; exact ⟨_, _, h.row, by decide⟩, h.from_, h.sep⟩
end
def KeepT (w w' : World) : Prop := ∀ (b : Nat) (xs : Array Value) (T : TypeId), T ≠ 57 → T ≠ 47 → T ≠ 52 → Row w b xs T → Row w' b xs T
theorem KeepT.trans {a b c : World} (h : KeepT a b) (k : KeepT b c) : KeepT a c := fun i xs T h1 h2 h3 h4 => k i xs T h1 h2 h3 (h i xs T h1 h2 h3 h4)
theorem KeepT.below {w w' : World} (h : Below w.heap.size w w') : KeepT w w' := fun _ _ _ _ _ _ h4 => h4.step h
theorem KeepT.grown {w w' : World} {row : Option Nat} (h : w.grownBy w' row) (hr : ∀ g, row = some g → ∃ xs T, Row w g xs T ∧ (T = 57 ∨ T = 47 ∨ T = 52)) : KeepT w w' := fun b xs T h1 h2 h3 h4 => by
  unfold Row
  rw [h.block b h4.lt (fun e => by
    obtain ⟨ys, T', h5, h6⟩ := hr b e.symm
    unfold Row at h4 h5
    rw [h5] at h4; cases h4
    rcases h6 with e | e | e
    · exact h1 e
    · exact h2 e
    · exact h3 e)]
  exact h4
theorem KeepT.set {w : World} {b : Nat} {xs : Array Value} {T : TypeId} (h : Row w b xs T) (hT : T = 57 ∨ T = 47 ∨ T = 52) (i : Nat) (u : Value) : KeepT w (w.setCell ⟨b, i, none⟩ u) :=
  KeepT.grown (grownBy_set_Dlh w b i u) fun g e => by cases e; exact ⟨_, _, h, hT⟩
theorem Mch.frame {B kb : Nat} {w w' : World} {v : Value} {R : List Dfr} {d : Dsk} (h : Mch B kb w v R d) (hf : ∀ b, b < w.heap.size → b ≠ kb → v.ownBlock ≠ some b → w'.heap[b]? = w.heap[b]?) : KeepT w w' := fun b xs T h1 h2 h3 h4 => by
  unfold Row
  rw [hf b h4.lt (fun e => by
    subst e
    have h5 := h.row
    unfold Row at h4 h5
    rw [h5] at h4; cases h4; exact h1 rfl) (h.own.apart h4 h2)]
  exact h4
set_option maxRecDepth 100000 in
theorem place_any_Dlh {B kb : Nat} {v : Value} {R : List Dfr} {d : Dsk} (s : ByteArray) (w : World) (h : IsRws w v R) (hc : w.cell? ⟨kb, 0, none⟩ = some v) (hn : R.map Dfr.t = d.fs.map Dfl.t) (hr : d.fs.Pairwise fun x y => x.t < y.t) (hl : R.length ≤ 1000000) :
    Calls Try.prog 31 #[.pointer (some ⟨kb, 0, none⟩), .string s] w fun e w' => e = .returned (.tuple #[.int .i64 (cntF d.fs s.data.toList), .bool (getF d.fs s.data.toList).isSome]) ∧ Below w.heap.size w w' := by
  have C := Lib.hid (dSearch_any v R s w h (rise_names hn hr) hl)
  rw [cnt_names hn, get_names hn] at C
  go_enter Try.func31, Try.ntmps31
  go_wp2_with fail
  refine C.out.mono ?_
  rintro e w1 ⟨rfl, hb⟩
  go_wp2
  go_ret2
  exact ⟨rfl, hb⟩
set_option maxRecDepth 100000 in
theorem missing_any {B kb : Nat} {v : Value} {R : List Dfr} {d : Dsk} (s : ByteArray) (w : World) (h : Mch B kb w v R d) (hr : d.fs.Pairwise fun x y => x.t < y.t) (hl : d.fs.length ≤ 1000000) :
    Calls Try.prog 43 #[.pointer (some ⟨kb, 0, none⟩), .string s] w fun e w' => e = .returned (.int .i64 (if (getF d.fs s.data.toList).isSome then 0 else 5)) ∧ Below w.heap.size w w' := by
  have C := Lib.hid (place_any_Dlh (B := B) s w h.own.rws h.cell.1 h.names hr (by rw [h.rows.len]; exact hl))
  rcases hg : (getF d.fs s.data.toList).isSome with _ | _
  · rw [hg] at C
    clear hg
    go_enter Try.func43, Try.ntmps43
    go_wp2_with fail
    refine C.out.mono ?_
    rintro e w1 ⟨rfl, hb⟩
    go_wp2
    go_ret
    exact ⟨rfl, hb⟩
  · rw [hg] at C
    clear hg
    go_enter Try.func43, Try.ntmps43
    go_wp2_with fail
    refine C.out.mono ?_
    rintro e w1 ⟨rfl, hb⟩
    go_wp2
    go_ret
    exact ⟨rfl, hb⟩
def TakeR (B kb : Nat) (v : Value) (R : List Dfr) (d : Dsk) (t : Txt) (w : World) (e : Ending) (w' : World) : Prop := ∃ r v' R', e = .returned (dfrV r) ∧ Mch B kb w' v' R' ⟨lessF d.fs t, d.off, d.fuse⟩ ∧ RowP B w' r ((getF d.fs t).getD ⟨⟨#[]⟩, ⟨#[]⟩, []⟩) ∧ (∀ y ∈ R', SepR r y) ∧ Below B w w' ∧ (∀ y ∈ R', y ∈ R) ∧ v'.ownBlock = v.ownBlock ∧ ∀ b, b < w.heap.size → b ≠ kb → v.ownBlock ≠ some b → w'.heap[b]? = w.heap[b]?
theorem lessF_none {L : List Dfl} {t : Txt} (h : getF L t = none) : lessF L t = L := by
  unfold lessF
  exact List.filter_eq_self.2 fun x hx => by simpa using getF_none.1 h x hx
section
variable {B kb b : Nat} {w : World} {v : Value} {R : List Dfr} {d : Dsk} {xs : Array Value}
theorem Mch.box (h : Mch B kb w v R d) (hb : Row w b xs 47) (hne : v.ownBlock ≠ some b) (i : Nat) (u : Value) : Mch B kb (w.setCell ⟨b, i, none⟩ u) v R d := by
  have hg := grownBy_set_Dlh w b i u
  have hkb : kb ≠ b := fun e => by
    subst e
    have h1 := h.row
    unfold Row at h1 hb
    rw [h1] at hb; cases hb
  refine ⟨h.row.other ⟨b, i, none⟩ u hkb, World.ownsRow.kept h.own hg (by cases hv : v.ownBlock with | none => exact .inl rfl | some k => exact .inr (by rw [← hv]; exact hne)), h.rows.imp fun r x hr => hr.turn hg fun g e => by cases e; exact ⟨_, _, hb, by decide⟩, h.from_, h.sep⟩
theorem RowP.box {r : Dfr} {x : Dfl} (h : RowP B w r x) (hb : Row w b xs 47) (i : Nat) (u : Value) : RowP B (w.setCell ⟨b, i, none⟩ u) r x := h.turn (grownBy_set_Dlh w b i u) fun g e => by cases e; exact ⟨_, _, hb, by decide⟩
def put3 (W : World) (b : Nat) (x : Dfr) : World := ((W.setCell ⟨b, 0, none⟩ (.string x.n)).setCell ⟨b, 1, none⟩ (.string x.d)).setCell ⟨b, 2, none⟩ (.slice x.a x.z x.c)
theorem row_put3 {y1 y2 y3 : Value} (hb : Row w b #[y1, y2, y3] 47) (x : Dfr) : Row (put3 w b x) b #[.string x.n, .string x.d, .slice x.a x.z x.c] 47 := by
  have := ((hb.set 0 (.string x.n)).set 1 (.string x.d)).set 2 (.slice x.a x.z x.c)
  exact this
theorem Mch.put3 {y1 y2 y3 : Value} (h : Mch B kb w v R d) (hb : Row w b #[y1, y2, y3] 47) (hne : v.ownBlock ≠ some b) (x : Dfr) : Mch B kb (put3 w b x) v R d :=
  ((h.box hb hne 0 _).box (hb.set 0 _) hne 1 _).box ((hb.set 0 _).set 1 _) hne 2 _
theorem RowP.put3 {y1 y2 y3 : Value} {r : Dfr} {z : Dfl} (h : RowP B w r z) (hb : Row w b #[y1, y2, y3] 47) (x : Dfr) : RowP B (put3 w b x) r z :=
  ((h.box hb 0 _).box (hb.set 0 _) 1 _).box ((hb.set 0 _).set 1 _) 2 _
theorem below_put3 {W0 : World} (h : Below B W0 w) (hb : B ≤ b) (x : Dfr) : Below B W0 (put3 w b x) := ((h.setCell (p := ⟨b, 0, none⟩) hb _).setCell (p := ⟨b, 1, none⟩) hb _).setCell (p := ⟨b, 2, none⟩) hb _
theorem row_cells {y1 y2 y3 : Value} (hb : Row w b #[y1, y2, y3] 47) : w.cell? ⟨b, 0, none⟩ = some y1 ∧ w.cell? ⟨b, 1, none⟩ = some y2 ∧ w.cell? ⟨b, 2, none⟩ = some y3 ∧ ∀ i, w.frozen? ⟨b, i, none⟩ = false := by
  have p0 := hb.cell 0; have p1 := hb.cell 1; have p2 := hb.cell 2
  simp only [List.getElem?_toArray, List.getElem?_cons_zero, List.getElem?_cons_succ] at p0 p1 p2
  exact ⟨p0, p1, p2, fun i => hb.free i⟩
end
set_option maxRecDepth 100000 in
set_option maxHeartbeats 4000000 in
theorem take_any (B kb : Nat) (v : Value) (R : List Dfr) (d : Dsk) (s : ByteArray) (w : World) (h : Mch B kb w v R d) (hB : B ≤ w.heap.size) (hr : d.fs.Pairwise fun x y => x.t < y.t) (hl : d.fs.length ≤ 1000) :
    Calls Try.prog 47 #[.pointer (some ⟨kb, 0, none⟩), .string s] w (TakeR B kb v R d s.data.toList w) := by
  obtain ⟨V, hV⟩ : ∃ V, V = w.alloc (.cells #[.string ⟨#[]⟩, .string ⟨#[]⟩, .slice none 0 0] 47) := ⟨_, rfl⟩
  have hbV : Below w.heap.size w V := by rw [hV]; exact (Below.refl _ _).alloc (Nat.le_refl _) _
  have hRb : Row V w.heap.size #[.string ⟨#[]⟩, .string ⟨#[]⟩, .slice none 0 0] 47 := by rw [hV]; exact Row.made _ _ _
  have hM := h.stays hbV
  have HV := Lib.hid hV; have HM := Lib.hid hM; have HRB := Lib.hid hRb
  have HBV : Hid (Below B w V) := Lib.hid (hbV.mono hB)
  have hlR : R.length = d.fs.length := h.rows.len
  have C1 := Lib.hid (place_any_Dlh (B := B) s V hM.own.rws hM.cell.1 hM.names hr (by rw [hlR]; omega))
  have HAT := Lib.hid (getF_cnt hr s.data.toList)
  have HLE := Lib.hid (cntF_le d.fs s.data.toList)
  obtain ⟨k, hk⟩ : ∃ k, k = cntF d.fs s.data.toList := ⟨_, rfl⟩
  rw [← hk] at C1 HLE
  have HK := Lib.hid hk
  have hBV : B ≤ V.heap.size := Nat.le_trans hB hbV.size
  have HNE : Hid (v.ownBlock ≠ some w.heap.size) := Lib.hid fun e => by have := (World.ownsRow.lt h.own _ e).2; omega
  have HBW := Lib.hid hbV
  clear hV hbV hRb hM h hk
  rcases hg : getF d.fs s.data.toList with _ | x
  · have HL : Hid (lessF d.fs s.data.toList = d.fs) := Lib.hid (lessF_none hg)
    rw [hg] at C1
    have HG := Lib.hid hg
    clear hg
    go_enter Try.func47, Try.ntmps47
    go_wp2_with fail
    rw [← HV.out]
    go_wp2_with fail
    refine C1.out.mono ?_
    rintro e w2 ⟨rfl, hb2⟩
    have HM2 := Lib.hid (HM.out.stays hb2)
    have HB2 := Lib.hid (HBV.out.trans (hb2.mono hBV))
    have HR2 := Lib.hid (HRB.out.step hb2)
    obtain ⟨r0, r1, r2, fz⟩ := row_cells HR2.out
    have hlw : w.heap.size < w2.heap.size := HR2.out.lt
    have HFB : Hid (∀ b, b < w.heap.size → w2.heap[b]? = w.heap[b]?) := Lib.hid fun b h1 => (HBW.out.trans (hb2.mono HBW.out.size)).block b h1
    clear hb2
    have HR3 := Lib.hid (row_put3 HR2.out zeroDfr)
    have HM3 := Lib.hid (HM2.out.put3 HR2.out HNE.out zeroDfr)
    have HB3 := Lib.hid (below_put3 HB2.out hB zeroDfr)
    have HFR : Hid (∀ b, b < w.heap.size → b ≠ kb → v.ownBlock ≠ some b → (put3 w2 w.heap.size zeroDfr).heap[b]? = w.heap[b]?) := Lib.hid fun b h1 _ _ => by
      unfold put3
      rw [Below.heap_setCell _ _ _ b (by simp; omega), Below.heap_setCell _ _ _ b (by simp; omega), Below.heap_setCell _ _ _ b (by simp; omega), HFB.out b h1]
    unfold put3 zeroDfr at HR3 HM3 HB3 HFR
    go_wp2
    obtain ⟨r0', r1', r2', _⟩ := row_cells HR3.out
    exact bodyPost_ret (v := dfrV zeroDfr) (by unfold zeroDfr; simp [results, Try.results47, go_sem, r0', r1', r2']) rfl ⟨zeroDfr, v, R, rfl, by rw [HL.out]; exact HM3.out, by rw [HG.out]; exact RowP.nil _ _ _ _, (fun y _ g e => by cases e), HB3.out, fun y hy => hy, rfl, HFR.out⟩
  · obtain ⟨hkl, hkt, hkg⟩ : ∃ h : k < d.fs.length, d.fs[k].t = s.data.toList ∧ getF d.fs s.data.toList = some d.fs[k] := by
      rcases HAT.out with ⟨h1, h2, h3⟩ | ⟨h1, _⟩
      · rw [← HK.out] at h1
        refine ⟨h1, ?_, ?_⟩
        · simp only [HK.out]; exact h2
        · simp only [HK.out]; exact h3
      · rw [hg] at h1; cases h1
    have HLE2 : Hid (lessF d.fs s.data.toList = d.fs.take k ++ d.fs.drop (k + 1)) := Lib.hid (lessF_at hr hkl hkt)
    have hkR : k < R.length := by omega
    have HX : Hid ((getF d.fs s.data.toList).getD ⟨⟨#[]⟩, ⟨#[]⟩, []⟩ = d.fs[k]) := Lib.hid (by rw [hkg]; rfl)
    have HRK : Hid (∀ W, Below V.heap.size V W → RowP B W (R[k]'hkR) (d.fs[k]'hkl)) := Lib.hid fun W hW => (HM.out.rows.get k hkR hkl).stays hW
    have HRW : Hid (∀ W, Below V.heap.size V W → IsRws W v R) := Lib.hid fun W hW => HM.out.own.rws.stays hW
    have HRS : Hid (∀ St, RowsS St R d.fs → RowsS St (R.take k ++ R.drop (k + 1)) (d.fs.take k ++ d.fs.drop (k + 1))) := Lib.hid fun St h => (h.take k).app (h.drop (k + 1))
    have CD := Lib.hid (fun W (hO : OwnD B W v R) (hBW : B ≤ W.heap.size) => dDelete_any B v R k W hO hkR (by omega) hBW)
    rw [hg] at C1
    clear hg hkg hkt HAT
    have HLR := Lib.hid hlR
    clear hlR
    obtain ⟨y, hy⟩ : ∃ y, y = R[k]'hkR := ⟨_, rfl⟩
    rw [← hy] at HRK
    have HY := Lib.hid hy
    have hRk : k < R.length := hkR
    have HSEP := Lib.hid (sep_less HM.out.sep hkR)
    rw [← HY.out] at HSEP
    clear hy
    go_enter Try.func47, Try.ntmps47
    go_wp2_with fail
    rw [← HV.out]
    go_wp2_with fail
    refine C1.out.mono ?_
    rintro e w2 ⟨rfl, hb2⟩
    have HM2 := Lib.hid (HM.out.stays hb2)
    have HB2 := Lib.hid (HBV.out.trans (hb2.mono hBV))
    have HR2 := Lib.hid (HRB.out.step hb2)
    have HP2 := Lib.hid (HRK.out w2 hb2)
    obtain ⟨_, a1, cap1, hv1, ⟨_, hcap⟩, hc1⟩ := HRW.out w2 hb2
    subst hv1
    obtain ⟨b1, o1, rfl, hbl, g1⟩ := hc1 (by omega)
    obtain ⟨c0, c1, c2⟩ := g1 k hkR
    rw [← HY.out] at c0 c1 c2
    obtain ⟨m0, m1, m2, fm⟩ := HM2.out.cell
    have hbk : decide ((k : Int) < (R.length : Int)) = true := decide_eq_true (by omega)
    have hlw : w.heap.size < w2.heap.size := HR2.out.lt
    have hlk : kb < w2.heap.size := HM2.out.lt
    have HA : Hid (Below w2.heap.size w2 (w2.alloc (.cells #[.string y.n, .string y.d, .slice y.a y.z y.c] 47))) := Lib.hid ((Below.refl _ _).alloc (Nat.le_refl _) _)
    have HRA : Hid (Row (w2.alloc (.cells #[.string y.n, .string y.d, .slice y.a y.z y.c] 47)) w2.heap.size #[.string y.n, .string y.d, .slice y.a y.z y.c] 47) := Lib.hid (Row.made _ _ _)
    have hsz2 : V.heap.size ≤ w2.heap.size := hb2.size
    have HFB : Hid (∀ b, b < w.heap.size → w2.heap[b]? = w.heap[b]?) := Lib.hid fun b h1 => (HBW.out.trans (hb2.mono HBW.out.size)).block b h1
    clear hb2 g1 hc1
    have HM3 := Lib.hid (HM2.out.stays HA.out)
    have HR3 := Lib.hid (HR2.out.step HA.out)
    have HP3 := Lib.hid (HP2.out.stays HA.out)
    have HB3 := Lib.hid (HB2.out.trans (HA.out.mono (Nat.le_trans hBV (by have := HB2.out; exact hsz2))))
    have HNE3 : Hid ((Value.slice (some (⟨b1, o1, none⟩ : Addr)) R.length cap1).ownBlock ≠ some w2.heap.size) := Lib.hid fun e => by have := (World.ownsRow.lt HM2.out.own _ e).2; omega
    have C3 := Lib.hid (CD.out _ HM3.out.own (Nat.le_trans hBV (Nat.le_trans hsz2 HA.out.size)))
    go_wp2_with fail
    refine C3.out.mono ?_
    rintro e w4 ⟨v4, rfl, ho4, hg4, hv4⟩
    obtain ⟨a4, n4, c4, rfl⟩ := ho4.len
    obtain ⟨hk4, hp4⟩ := HM3.out.grown hg4
    have hR4 : Row w4 w.heap.size #[.string ⟨#[]⟩, .string ⟨#[]⟩, .slice none 0 0] 47 := by
      unfold Row; rw [hg4.block _ HR3.out.lt (fun e => HNE.out e.symm)]; exact HR3.out
    have hY4 : Row w4 w2.heap.size #[.string y.n, .string y.d, .slice y.a y.z y.c] 47 := by
      unfold Row; rw [hg4.block _ HRA.out.lt (fun e => HNE3.out e.symm)]; exact HRA.out
    have HM5 := Lib.hid (Mch.put0 hk4 HM3.out.from_ ho4 (HRS.out _ (HM3.out.rows.imp fun r x h => hp4 r x h)) HSEP.out.1)
    have HP5 := Lib.hid ((hp4 _ _ HP3.out).turn (grownBy_set_Dlh w4 kb 0 (.slice a4 n4 c4)) fun g e => by cases e; exact ⟨_, _, hk4, by decide⟩)
    have hkr : w.heap.size ≠ kb := fun e => by
      subst e
      unfold Row at hR4 hk4
      rw [hR4] at hk4; cases hk4
    have HR5 := Lib.hid (hR4.other ⟨kb, 0, none⟩ (.slice a4 n4 c4) hkr)
    have HNE5 : Hid ((Value.slice a4 n4 c4).ownBlock ≠ some w.heap.size) := Lib.hid (by rw [hv4]; exact HNE.out)
    have HB5 : Hid (Below B w (w4.setCell ⟨kb, 0, none⟩ (.slice a4 n4 c4))) := Lib.hid (((HB3.out).trans (Mch.below HM3.out.own hg4 (Nat.le_trans hBV (Nat.le_trans hsz2 HA.out.size)))).setCell (p := ⟨kb, 0, none⟩) HM3.out.from_ (.slice a4 n4 c4))
    have HFR : Hid (∀ b, b < w.heap.size → b ≠ kb → (Value.slice (some (⟨b1, o1, none⟩ : Addr)) R.length cap1).ownBlock ≠ some b → (put3 (w4.setCell ⟨kb, 0, none⟩ (.slice a4 n4 c4)) w.heap.size y).heap[b]? = w.heap[b]?) := Lib.hid fun b h1 h2 h3 => by
      unfold put3
      rw [Below.heap_setCell _ _ _ b (by simp; omega), Below.heap_setCell _ _ _ b (by simp; omega), Below.heap_setCell _ _ _ b (by simp; omega), Below.heap_setCell _ _ _ b (by simpa using h2), hg4.block b (Nat.lt_of_lt_of_le (by omega : b < w2.heap.size) HA.out.size) (fun e => h3 e.symm), HA.out.block b (by omega), HFB.out b h1]
    have HVB : Hid ((Value.slice a4 n4 c4).ownBlock = (Value.slice (some (⟨b1, o1, none⟩ : Addr)) R.length cap1).ownBlock) := Lib.hid hv4
    have HSUB : Hid (∀ y ∈ R.take k ++ R.drop (k + 1), y ∈ R) := Lib.hid fun y hy => by
      rcases List.mem_append.1 hy with hy | hy
      · exact List.mem_of_mem_take hy
      · exact List.mem_of_mem_drop hy
    have HM6 := Lib.hid (HM5.out.put3 HR5.out HNE5.out y)
    have HP6 := Lib.hid (HP5.out.put3 HR5.out y)
    have HR6 := Lib.hid (row_put3 HR5.out y)
    have HB6 := Lib.hid (below_put3 HB5.out hB y)
    unfold put3 at HM6 HP6 HR6 HB6 HFR
    have hkn := fun i => hk4.free i
    have hkc := hk4.cell 0
    simp only [List.getElem?_toArray, List.getElem?_cons_zero] at hkc
    obtain ⟨y0, y1, y2, fy⟩ := row_cells hY4
    obtain ⟨r0, r1, r2, fr⟩ := row_cells hR4
    have hky : kb ≠ w2.heap.size := by omega
    clear c0 c1 c2 m0 m1 m2 fm hg4 hk4 hp4 hR4 hY4 ho4 hv4
    go_wp2_with fail
    obtain ⟨r0', r1', r2', _⟩ := row_cells HR6.out
    exact bodyPost_ret (v := dfrV y) (by simp [results, Try.results47, go_sem, r0', r1', r2']) rfl ⟨y, _, _, rfl, by rw [HLE2.out]; exact HM6.out, by rw [HX.out]; exact HP6.out, HSEP.out.2, HB6.out, HSUB.out, HVB.out, HFR.out⟩
def PutR (B kb : Nat) (d : Dsk) (x : Dfl) (w : World) (e : Ending) (w' : World) : Prop := ∃ v' R', e = .returned (.tuple #[]) ∧ Mch B kb w' v' R' ⟨withF d.fs x, d.off, d.fuse⟩ ∧ Below B w w' ∧ KeepT w w'
set_option maxRecDepth 100000 in
set_option maxHeartbeats 4000000 in
theorem put_any (B kb : Nat) (v : Value) (R : List Dfr) (d : Dsk) (r : Dfr) (x : Dfl) (w : World) (h : Mch B kb w v R d) (hx : RowP B w r x) (hB : B ≤ w.heap.size) (hr : d.fs.Pairwise fun x y => x.t < y.t) (hl : d.fs.length ≤ 1000) (hn : getF d.fs x.t = none) (hsep : ∀ y ∈ R, SepR r y) :
    Calls Try.prog 45 #[.pointer (some ⟨kb, 0, none⟩), dfrV r] w (PutR B kb d x w) := by
  obtain ⟨V, hV⟩ : ∃ V, V = w.alloc (.cells #[.string r.n, .string r.d, .slice r.a r.z r.c] 47) := ⟨_, rfl⟩
  have hbV : Below w.heap.size w V := by rw [hV]; exact (Below.refl _ _).alloc (Nat.le_refl _) _
  have hRb : Row V w.heap.size #[.string r.n, .string r.d, .slice r.a r.z r.c] 47 := by rw [hV]; exact Row.made _ _ _
  have hM := h.stays hbV
  have HV := Lib.hid hV; have HM := Lib.hid hM; have HRB := Lib.hid hRb; have HP := Lib.hid (hx.stays hbV)
  have HBV : Hid (Below B w V) := Lib.hid (hbV.mono hB)
  have HKV : Hid (KeepT w V) := Lib.hid (KeepT.below hbV)
  have hlR : R.length = d.fs.length := h.rows.len
  have C1 := Lib.hid (place_any_Dlh (B := B) r.n V hM.own.rws hM.cell.1 hM.names hr (by rw [hlR]; omega))
  have hxt : r.n.data.toList = x.t := by rw [hx.1]; rfl
  rw [hxt, hn] at C1
  have HW := Lib.hid (withF_at hr hn)
  have hle := cntF_le d.fs x.t
  obtain ⟨k, hk⟩ : ∃ k, k = cntF d.fs x.t := ⟨_, rfl⟩
  rw [← hk] at C1 HW hle
  have HRS : Hid (∀ St, RowsS St R d.fs → St r x → RowsS St (R.take k ++ r :: R.drop k) (d.fs.take k ++ x :: d.fs.drop k)) := Lib.hid fun St h1 h2 => (h1.take k).app (show RowsS St (r :: R.drop k) (x :: d.fs.drop k) from ⟨h2, h1.drop k⟩)
  have hBV : B ≤ V.heap.size := Nat.le_trans hB hbV.size
  obtain ⟨r0, r1, r2, fr⟩ := row_cells hRb
  have HSEP := Lib.hid hsep
  have CI := Lib.hid (fun W A (hO : OwnD B W v R) (hBW : B ≤ W.heap.size) h1 h2 => dInsert_any B v R k A r W hO (by omega) (by omega) hBW h1 h2)
  clear hV hbV hRb hM h hk hn hxt hlR hx
  go_enter Try.func45, Try.ntmps45
  go_wp2_with fail
  rw [← HV.out]
  go_wp2_with fail
  refine C1.out.mono ?_
  rintro e w2 ⟨rfl, hb2⟩
  have HM2 := Lib.hid (HM.out.stays hb2)
  have HP2 := Lib.hid (HP.out.stays hb2)
  have HB2 := Lib.hid (HBV.out.trans (hb2.mono hBV))
  have HR2 := Lib.hid (HRB.out.step hb2)
  have hsz2 : V.heap.size ≤ w2.heap.size := hb2.size
  have HKT : Hid (KeepT w w2) := Lib.hid (HKV.out.trans (KeepT.below hb2))
  clear hb2 r0 r1 r2 fr
  obtain ⟨r0, r1, r2, fr⟩ := row_cells HR2.out
  obtain ⟨m0, m1, m2, fm⟩ := HM2.out.cell
  have hlw : w.heap.size < w2.heap.size := HR2.out.lt
  have hlk : kb < w2.heap.size := HM2.out.lt
  have CIN : Hid (∀ W3, Below w2.heap.size w2 W3 → ∀ A, w2.heap.size ≤ A → W3.heap[A]? = some (.cells #[.string r.n, .string r.d, .slice r.a r.z r.c] 47 (0, 0)) →
      Calls Try.prog 67 #[v, .int .i64 k, .slice (some ⟨A, 0, none⟩) 1 1] W3 fun e w' => ∃ a4 n4 c4, e = .returned (.slice a4 n4 c4) ∧ w'.cell? ⟨kb, 0, none⟩ = some v ∧ (∀ i, w'.frozen? ⟨kb, i, none⟩ = false) ∧
        Mch B kb (w'.setCell ⟨kb, 0, none⟩ (.slice a4 n4 c4)) (.slice a4 n4 c4) (R.take k ++ r :: R.drop k) ⟨withF d.fs x, d.off, d.fuse⟩ ∧ Below B w (w'.setCell ⟨kb, 0, none⟩ (.slice a4 n4 c4)) ∧ KeepT w (w'.setCell ⟨kb, 0, none⟩ (.slice a4 n4 c4))) := Lib.hid fun W3 hW A hA hrow => by
    have hM3 := HM2.out.stays hW
    have hBW : B ≤ W3.heap.size := Nat.le_trans hBV (Nat.le_trans hsz2 hW.size)
    refine (CI.out W3 A hM3.own hBW hrow (fun e => by have := (World.ownsRow.lt HM2.out.own _ e).2; omega)).mono ?_
    rintro e w4 ⟨v4, rfl, ho4, hg4⟩
    obtain ⟨a4, n4, c4, rfl⟩ := ho4.len
    obtain ⟨hk4, hp4⟩ := hM3.grown hg4
    have hc := hk4.cell 0
    simp only [List.getElem?_toArray, List.getElem?_cons_zero] at hc
    refine ⟨a4, n4, c4, rfl, hc, fun i => hk4.free i, ?_, ?_, ((HKT.out.trans (KeepT.below hW)).trans (KeepT.grown hg4 fun g e => by obtain ⟨xs, hx⟩ := hM3.own.row e; exact ⟨xs, _, hx, .inr (.inl rfl)⟩)).trans (KeepT.set hk4 (.inl rfl) 0 _)⟩
    · rw [HW.out]
      exact Mch.put0 hk4 hM3.from_ ho4 (HRS.out _ (hM3.rows.imp fun r x h => hp4 r x h) (hp4 _ _ (HP2.out.stays hW))) (sep_with k HM2.out.sep HSEP.out)
    · exact ((HB2.out.trans (hW.mono (Nat.le_trans hBV hsz2))).trans (Mch.below hM3.own hg4 hBW)).setCell (p := ⟨kb, 0, none⟩) hM3.from_ (.slice a4 n4 c4)
  clear CI HRS HW
  go_wp2_with fail
  go_region_with (go_at_call 67; refine (CIN.out _ ((Below.refl _ w2).drew.alloc (Nat.le_refl _) _) w2.heap.size (Nat.le_refl _) (Row.made _ _ _)).mono ?_; rintro e w4 ⟨a4, n4, c4, rfl, hc4, hf4, hM4, hB4, hT4⟩; have HM4 := Lib.hid hM4; have HB4 := Lib.hid hB4; have HT4 := Lib.hid hT4; clear hM4 hB4 hT4)
  all_goals (go_end0; exact ⟨_, _, rfl, HM4.out, HB4.out, HT4.out⟩)
set_option maxRecDepth 100000 in
set_option maxHeartbeats 4000000 in
theorem settled_any (f : Dfl) (u : Value) (w : World) (h : IsOps w u f.ops) (hd : f.d.size ≤ 262144) (ho : ∀ o ∈ f.ops, opOk o) :
    Calls Try.prog 46 #[.agg #[.string f.n, .string f.d, u]] w fun e w' => e = .returned (.agg #[.string f.n, .string (strT (seenF f)), .slice none 0 0]) ∧ Below w.heap.size w w' := by
  obtain ⟨V, hV⟩ : ∃ V, V = (w.alloc (.cells #[.string f.n, .string f.d, u] 47)).alloc (.cells #[.string ⟨#[]⟩, .string ⟨#[]⟩, .slice none 0 0] 47) := ⟨_, rfl⟩
  have hbV : Below w.heap.size w V := by rw [hV]; exact ((Below.refl _ _).alloc (Nat.le_refl _) _).alloc (by simp) _
  have hR : Row V w.heap.size #[.string f.n, .string f.d, u] 47 := by rw [hV]; exact (Row.made _ _ _).alloc _
  have hR2 : Row V (w.heap.size + 1) #[.string ⟨#[]⟩, .string ⟨#[]⟩, .slice none 0 0] 47 := by
    rw [hV]; have := Row.made (w.alloc (.cells #[.string f.n, .string f.d, u] 47)) #[.string ⟨#[]⟩, .string ⟨#[]⟩, .slice none 0 0] 47; simpa using this
  obtain ⟨_, a, cap, hu, _, _⟩ := id h
  have HV := Lib.hid hV; have HBV := Lib.hid hbV
  obtain ⟨p0, p1, p2, fz0⟩ := row_cells hR
  obtain ⟨r0, r1, r2, fz1⟩ := row_cells hR2
  have hlt := hR2.lt
  have CS : Hid (∀ W, Below V.heap.size V W → Calls Try.prog 32 #[.agg #[.string f.n, .string f.d, u]] W fun e w' => e = .returned (.string (strT (seenF f))) ∧
      Row w' w.heap.size #[.string f.n, .string f.d, u] 47 ∧ Row w' (w.heap.size + 1) #[.string ⟨#[]⟩, .string ⟨#[]⟩, .slice none 0 0] 47 ∧ Below w.heap.size w w') := Lib.hid fun W hW => by
    refine (seen_any f u W ((h.stays hbV).stays hW) hd ho).mono ?_
    rintro e w' ⟨rfl, hb⟩
    have hb2 := below_step hW hb
    exact ⟨rfl, hR.step hb2, hR2.step hb2, below_step hbV hb2⟩
  have hb1 : w.heap.size < V.heap.size := by omega
  subst hu
  clear hV hbV hR hR2 h ho hd
  go_enter Try.func46, Try.ntmps46
  go_wp2_with fail
  rw [← HV.out]
  go_wp2_with fail
  go_region_with (go_at_call 32; refine (CS.out _ (Below.refl _ V).drew).mono ?_; rintro e w4 ⟨rfl, hq0, hq1, hb4⟩; have HQ1 := Lib.hid hq1; have HB4 := Lib.hid hb4; obtain ⟨p0, p1, p2, fz0⟩ := row_cells hq0; obtain ⟨r0, r1, r2, fz1⟩ := row_cells hq1; clear hq0 hq1 hb4)
  all_goals
    have HQ3 := Lib.hid (row_put3 HQ1.out ⟨f.n, strT (seenF f), none, 0, 0⟩)
    have HB5 := Lib.hid (below_put3 HB4.out (Nat.le_succ _) ⟨f.n, strT (seenF f), none, 0, 0⟩)
    unfold put3 at HQ3 HB5
    clear p0 p1 p2 fz0 r0 r1 r2 fz1
    go_wp2
    obtain ⟨r0', r1', r2', _⟩ := row_cells HQ3.out
    exact bodyPost_ret (v := .agg #[.string f.n, .string (strT (seenF f)), .slice none 0 0]) (by simp [results, Try.results46, go_sem, r0', r1', r2']) rfl ⟨rfl, HB5.out⟩
theorem dfrCells_ops : ∀ {R : List Dfr} {i : Nat} (hi : i < R.length) (a : Option Addr) (z c : Nat), dfrCells (R.set i ⟨R[i].n, R[i].d, a, z, c⟩) = (dfrCells R).set (i * 3 + 2) (.slice a z c)
  | [], i, hi, _, _, _ => absurd hi (by simp)
  | x :: R, 0, hi, a, z, c => rfl
  | x :: R, i + 1, hi, a, z, c => by
    have hi' : i < R.length := by simpa using hi
    have ih := dfrCells_ops (R := R) (i := i) hi' a z c
    show dfrC x ++ dfrCells (R.set i ⟨R[i].n, R[i].d, a, z, c⟩) = (dfrC x ++ dfrCells R).set _ _
    rw [ih, List.set_append_right _ _ (by simp; omega)]
    have : (i + 1) * 3 + 2 - (dfrC x).length = i * 3 + 2 := by show (i + 1) * 3 + 2 - 3 = _; omega
    rw [this]
theorem ownD_ops {B : Nat} {w : World} {g n cap i : Nat} {R : List Dfr} (h : OwnD B w (.slice (some ⟨g, 0, none⟩) n cap) R) (hi : i < R.length) (a : Option Addr) (z c : Nat) :
    OwnD B (w.setCell ⟨g, i * 3 + 2, none⟩ (.slice a z c)) (.slice (some ⟨g, 0, none⟩) n cap) (R.set i ⟨R[i].n, R[i].d, a, z, c⟩) ∧ w.cell? ⟨g, i * 3 + 2, none⟩ = some (.slice R[i].a R[i].z R[i].c) ∧ w.frozen? ⟨g, i * 3 + 2, none⟩ = false ∧ B ≤ g := by
  have hcell := h.cells (g := g) rfl (i * 3 + 2) (.slice R[i].a R[i].z R[i].c) (by rw [dfrCells_get hi (by decide)]; rfl)
  rw [add_plain', Nat.zero_add] at hcell
  rcases h.2 with ⟨h0, _⟩ | ⟨g', cap', cur, h1, h2, h3, h4, h5, h6, h7⟩
  · cases h0
  cases h1
  have hrow : Row w g cur 47 := h3
  refine ⟨⟨by rw [dfrCells_len], .inr ⟨g, cap, cur.setIfInBounds (i * 3 + 2) (.slice a z c), by rw [List.length_set], h2, hrow.set _ _, by rw [List.length_set]; exact h4, h5, by simpa using h6, ?_⟩⟩, hcell, hrow.free _, h2⟩
  rw [List.length_set, dfrCells_ops hi, ← h7, Array.toList_setIfInBounds, List.take_set]
theorem rows_of_get {St : Dfr → Dfl → Prop} : ∀ {R : List Dfr} {L : List Dfl}, R.length = L.length → (∀ i (h1 : i < R.length) (h2 : i < L.length), St R[i] L[i]) → RowsS St R L
  | [], [], _, _ => trivial
  | r :: R, x :: L, h, hs => ⟨hs 0 (by simp) (by simp), rows_of_get (by simpa using h) fun i h1 h2 => hs (i + 1) (by simpa using h1) (by simpa using h2)⟩
  | [], _ :: _, h, _ => by simp at h
  | _ :: _, [], h, _ => by simp at h
structure NewI (B kb : Nat) (w : World) (v : Value) (R : List Dfr) (d : Dsk) (k : Nat) : Prop where
  row : Row w kb #[v, .bool d.off, .int .i64 d.fuse] 57
  own : OwnD B w v R
  len : R.length = d.fs.length
  at_ : ∀ j (h1 : j < R.length) (h2 : j < d.fs.length), R[j].n = d.fs[j].n ∧ R[j].d = d.fs[j].d ∧ (j < k → OwnP15 B w (.slice R[j].a R[j].z R[j].c) d.fs[j].ops)
  sep : ∀ i j (h1 : i < R.length) (h2 : j < R.length), i < k → j < k → i ≠ j → SepR R[i] R[j]
theorem OwnP15.turn {B : Nat} {w w' : World} {v : Value} {L : List Dop} {row : Option Nat} (h : OwnP15 B w v L) (hg : w.grownBy w' row) (hr : ∀ g, row = some g → ∃ xs T, Row w g xs T ∧ T ≠ 52) : OwnP15 B w' v L :=
  h.grown hg (by
    cases hv : v.ownBlock with
    | none => exact .inl rfl
    | some k =>
      refine .inr fun e => ?_
      obtain ⟨xs, T, h1, h2⟩ := hr k e.symm
      obtain ⟨ys, h3⟩ := h.row hv
      unfold Row at h3
      rw [show w.heap[k]? = _ from h1] at h3
      cases h3; exact h2 rfl)
section
variable {B kb : Nat} {w w' : World} {v : Value} {R : List Dfr} {d : Dsk} {k : Nat}
theorem NewI.stays (h : NewI B kb w v R d k) (hb : Below w.heap.size w w') : NewI B kb w' v R d k :=
  ⟨h.row.step hb, h.own.stays hb, h.len, fun j h1 h2 => ⟨(h.at_ j h1 h2).1, (h.at_ j h1 h2).2.1, fun hj => ((h.at_ j h1 h2).2.2 hj).stays hb⟩, h.sep⟩
theorem NewI.done (h : NewI B kb w v R d k) (hk : d.fs.length ≤ k) (hB : B ≤ kb) : Mch B kb w v R d :=
  ⟨h.row, h.own, rows_of_get h.len fun i h1 h2 => ⟨(h.at_ i h1 h2).1, (h.at_ i h1 h2).2.1, (h.at_ i h1 h2).2.2 (by omega)⟩, hB, List.pairwise_iff_getElem.2 fun i j h1 h2 hij => h.sep i j h1 h2 (by have := h.len; omega) (by have := h.len; omega) (by omega)⟩
theorem NewI.next (h : NewI B kb w v R d k) (hk : k < d.fs.length) {a : Option Addr} {z c : Nat} (ho : OwnP15 B w (.slice a z c) (d.fs[k]).ops) (hnew : ∀ j (hj : j < R.length), j < k → ∀ g, (Value.slice a z c).ownBlock = some g → obk R[j] ≠ some g) : ∃ g cap, v = .slice (some ⟨g, 0, none⟩) d.fs.length cap ∧ d.fs.length ≤ cap ∧ cap ≤ maxLen ∧ B ≤ g ∧
    w.frozen? ⟨g, k * 3 + 2, none⟩ = false ∧ (∃ u, w.cell? ⟨g, k * 3 + 2, none⟩ = some u) ∧ ∃ R', NewI B kb (w.setCell ⟨g, k * 3 + 2, none⟩ (.slice a z c)) v R' d (k + 1) := by
  have hkR : k < R.length := by rw [h.len]; exact hk
  rcases h.own.2 with ⟨_, h0⟩ | ⟨g, cap, cur, rfl, hbg, hg, hle, hm, _⟩
  · rw [h0] at hkR; exact absurd hkR (by simp)
  obtain ⟨o1, o2, o3, o4⟩ := ownD_ops h.own hkR a z c
  have hgr : w.grownBy (w.setCell ⟨g, k * 3 + 2, none⟩ (.slice a z c)) (some g) := grownBy_set_Dlh w g _ _
  have hrow : ∀ g', some g = some g' → ∃ xs T, Row w g' xs T ∧ T ≠ 52 := fun g' e => by cases e; exact ⟨_, _, hg, by decide⟩
  refine ⟨g, cap, by rw [h.len], by rw [← h.len]; exact hle, hm, hbg, o3, ⟨_, o2⟩, _, ⟨h.row.other ⟨g, k * 3 + 2, none⟩ _ (fun e => ?_), o1, by rw [List.length_set]; exact h.len, fun j h1 h2 => ?_, fun i j h1 h2 hi hj hij => ?_⟩⟩
  · have h1 := h.row
    unfold Row at h1
    have e' : kb = g := e
    rw [e', hg] at h1; cases h1
  · rw [List.length_set] at h1
    obtain ⟨g1, g2, g3⟩ := h.at_ j h1 h2
    rw [List.getElem_set]
    by_cases e : k = j
    · subst e
      rw [if_pos rfl]
      exact ⟨g1, g2, fun _ => ho.turn hgr hrow⟩
    · rw [if_neg e]
      exact ⟨g1, g2, fun hj => (g3 (by omega)).turn hgr hrow⟩
  · rw [List.length_set] at h1 h2
    rw [List.getElem_set, List.getElem_set]
    by_cases e1 : k = i
    · rw [if_pos e1, if_neg (by omega)]
      exact hnew j h2 (by omega)
    · rw [if_neg e1]
      by_cases e2 : k = j
      · rw [if_pos e2]
        exact SepR.symm (hnew i h1 (by omega))
      · rw [if_neg e2]
        exact h.sep i j h1 h2 (by omega) (by omega) hij
end
theorem Mch.low {B B' kb : Nat} {w : World} {v : Value} {R : List Dfr} {d : Dsk} (h : Mch B kb w v R d) (hb : B' ≤ B) : Mch B' kb w v R d := ⟨h.row, ownD_low h.own hb, h.rows.imp fun r x hr => ⟨hr.1, hr.2.1, hr.2.2.low hb⟩, Nat.le_trans hb h.from_, h.sep⟩
def RetM (d : Dsk) (w : World) (e : Ending) (w' : World) : Prop := ∃ kb v R, e = .returned (.pointer (some ⟨kb, 0, none⟩)) ∧ Mch w.heap.size kb w' v R d ∧ Below w.heap.size w w'
set_option maxRecDepth 100000 in
set_option maxHeartbeats 4000000 in
theorem newMachine_any (d : Dsk) (v0 : Value) (w : World) (h : IsDfs w v0 d.fs) (hl : d.fs.length ≤ 1000) (ho : ∀ f ∈ d.fs, f.ops.length ≤ 1000) :
    Calls Try.prog 35 #[dskV v0 d] w (RetM d w) := by
  obtain ⟨V, hV⟩ : ∃ V, V = (w.alloc (.cells #[v0, .bool d.off, .int .i64 d.fuse] 24)).alloc (.cells #[v0, .bool d.off, .int .i64 d.fuse] 57) := ⟨_, rfl⟩
  have hbV : Below w.heap.size w V := by rw [hV]; exact ((Below.refl _ _).alloc (Nat.le_refl _) _).alloc (by simp) _
  have hR : Row V w.heap.size #[v0, .bool d.off, .int .i64 d.fuse] 24 := by rw [hV]; exact (Row.made _ _ _).alloc _
  have hR2 : Row V (w.heap.size + 1) #[v0, .bool d.off, .int .i64 d.fuse] 57 := by
    rw [hV]; have := Row.made (w.alloc (.cells #[v0, .bool d.off, .int .i64 d.fuse] 24)) #[v0, .bool d.off, .int .i64 d.fuse] 57; simpa using this
  have HV := Lib.hid hV; have HBV := Lib.hid hbV
  have HIV := Lib.hid (h.stays hbV)
  obtain ⟨_, a, cap, hu, ⟨_, hcap⟩, _⟩ := id h
  obtain ⟨z, hz⟩ : ∃ z, z = d.fs.length := ⟨_, rfl⟩
  rw [← hz] at hu hl
  have HZ := Lib.hid hz
  subst hu
  obtain ⟨R0, hR0, hS0⟩ := h.rws
  have hV2 : V.heap.size = w.heap.size + 2 := by rw [hV]; simp
  -- the copy of the files
  have CC : Hid (Calls Try.prog 64 #[.slice a z cap] V fun e w' => ∃ a4 n4 c4, e = .returned (.slice a4 n4 c4) ∧ Row w' w.heap.size #[.slice a z cap, .bool d.off, .int .i64 d.fuse] 24 ∧
      Row w' (w.heap.size + 1) #[.slice a z cap, .bool d.off, .int .i64 d.fuse] 57 ∧ NewI w.heap.size (w.heap.size + 1) (w'.setCell ⟨w.heap.size + 1, 0, none⟩ (.slice a4 n4 c4)) (.slice a4 n4 c4) R0 d 0 ∧ Below w.heap.size w (w'.setCell ⟨w.heap.size + 1, 0, none⟩ (.slice a4 n4 c4)) ∧
      Row (w'.setCell ⟨w.heap.size + 1, 0, none⟩ (.slice a4 n4 c4)) w.heap.size #[.slice a z cap, .bool d.off, .int .i64 d.fuse] 24) := Lib.hid (by
    refine (dClone_any (.slice a z cap) R0 V (hR0.stays hbV) (by rw [hS0.len]; omega)).mono ?_
    rintro e w' ⟨v', rfl, hown, hb⟩
    obtain ⟨a4, n4, c4, rfl⟩ := hown.len
    have h1 := hR.step hb; have h2 := hR2.step hb
    have hown' := ownD_low hown (show w.heap.size ≤ V.heap.size from hbV.size)
    have hset := h2.set 0 (.slice a4 n4 c4)
    refine ⟨a4, n4, c4, rfl, h1, h2, ⟨hset, World.ownsRow.kept hown' (grownBy_set_Dlh w' (w.heap.size + 1) 0 _) (.inr (hown'.apart h2 (by decide))), hS0.len, fun j g1 g2 => ?_, fun i j _ _ hi => absurd hi (by omega)⟩, ((below_step hbV hb).setCell (p := ⟨w.heap.size + 1, 0, none⟩) (Nat.le_succ _) _), h1.other ⟨w.heap.size + 1, 0, none⟩ _ (by simp)⟩
    have := hS0.get j g1 g2
    exact ⟨this.1, this.2.1, fun hj => absurd hj (by omega)⟩
    )
  obtain ⟨p0, p1, p2, fz0⟩ : V.cell? ⟨w.heap.size, 0, none⟩ = some (.slice a z cap) ∧ V.cell? ⟨w.heap.size, 1, none⟩ = some (.bool d.off) ∧ V.cell? ⟨w.heap.size, 2, none⟩ = some (.int .i64 d.fuse) ∧ ∀ i, V.frozen? ⟨w.heap.size, i, none⟩ = false := by
    have p0 := hR.cell 0; have p1 := hR.cell 1; have p2 := hR.cell 2
    simp only [List.getElem?_toArray, List.getElem?_cons_zero, List.getElem?_cons_succ] at p0 p1 p2
    exact ⟨p0, p1, p2, fun i => hR.free i⟩
  have HOPS : Hid (∀ k (hk : k < d.fs.length), (d.fs[k]).ops.length ≤ 1000) := Lib.hid fun k hk => ho _ (List.getElem_mem hk)
  have hzz : z ≤ 9223372036854775807 := by omega
  have HI := Lib.hid h
  clear hV hbV hR hR2 h hz hR0 hS0 ho
  unfold dskV
  go_enter Try.func35, Try.ntmps35
  go_wp2_with fail
  rw [← HV.out]
  refine CC.out.mono ?_
  rintro e w1 ⟨a4, n4, c4, rfl, h1, h2, hN, hB, h3⟩
  have HN := Lib.hid hN; have HB := Lib.hid hB
  obtain ⟨m0, m1, m2, fm⟩ : w1.cell? ⟨w.heap.size + 1, 0, none⟩ = some (.slice a z cap) ∧ w1.cell? ⟨w.heap.size + 1, 1, none⟩ = some (.bool d.off) ∧ w1.cell? ⟨w.heap.size + 1, 2, none⟩ = some (.int .i64 d.fuse) ∧ ∀ i, w1.frozen? ⟨w.heap.size + 1, i, none⟩ = false := by
    have p0 := h2.cell 0; have p1 := h2.cell 1; have p2 := h2.cell 2
    simp only [List.getElem?_toArray, List.getElem?_cons_zero, List.getElem?_cons_succ] at p0 p1 p2
    exact ⟨p0, p1, p2, fun i => h2.free i⟩
  have q0 : w1.cell? ⟨w.heap.size, 0, none⟩ = some (.slice a z cap) := by
    have p0 := h1.cell 0
    simp only [List.getElem?_toArray, List.getElem?_cons_zero] at p0
    exact p0
  clear p0 p1 p2 fz0 h1 h2 h3 hN hB
  go_wp2_with fail
  go_loopw [19] (fun i wr => ∃ (k : Nat) (R : List Dfr), k ≤ z ∧ i = .int .i64 k ∧ NewI w.heap.size (w.heap.size + 1) wr (.slice a4 n4 c4) R d k ∧ Below w.heap.size w wr) (fun i _ => z - (intOf i).toNat)
  case atStart => exact ⟨0, R0, Nat.zero_le _, rfl, HN.out, HB.out⟩
  case round =>
    clear HN HB m0 m1 m2 fm q0
    obtain ⟨k, R, hk, rfl, hN, hB⟩ := hrel
    have HN := Lib.hid hN; have HB := Lib.hid hB
    by_cases hlt : k < z
    · have hko : k < d.fs.length := by have := HZ.out; omega
      obtain ⟨_, _, _, hev, _, hc⟩ := HI.out.stays hB
      rw [← HZ.out] at hev
      cases hev
      obtain ⟨b1, o1, rfl, hbl, g1⟩ := hc (by omega)
      obtain ⟨u, c0, c1, c2, hu⟩ := g1 k hko
      have hops := HOPS.out k hko
      obtain ⟨f, hf⟩ : ∃ f, f = d.fs[k]'hko := ⟨_, rfl⟩
      rw [← hf] at c0 c1 hu hops
      have hbk : decide ((k : Int) < (z : Int)) = true := by simpa using (show (k : Int) < z by omega)
      have hsz : w.heap.size ≤ wr.heap.size := hB.size
      obtain ⟨W, hW⟩ : ∃ W, W = wr.alloc (.cells #[.string f.n, .string f.d, u] 47) := ⟨_, rfl⟩
      have hbW : Below wr.heap.size wr W := by rw [hW]; exact (Below.refl _ _).alloc (Nat.le_refl _) _
      have hRW : Row W wr.heap.size #[.string f.n, .string f.d, u] 47 := by rw [hW]; exact Row.made _ _ _
      obtain ⟨a2, cap2, hu2⟩ := hu.len
      have CO : Hid (∀ W2, Below W.heap.size W W2 → Calls Try.prog 65 #[u] W2 fun e w' => ∃ a5 n5 c5 g cap', e = .returned (.slice a5 n5 c5) ∧ Row w' (w.heap.size + 1) #[.slice a4 n4 c4, .bool d.off, .int .i64 d.fuse] 57 ∧
          Row w' wr.heap.size #[.string f.n, .string f.d, u] 47 ∧ a4 = some ⟨g, 0, none⟩ ∧ n4 = z ∧ c4 = cap' ∧ z ≤ cap' ∧ cap' ≤ 9223372036854775807 ∧ w'.frozen? ⟨g, k * 3 + 2, none⟩ = false ∧ (∃ u, w'.cell? ⟨g, k * 3 + 2, none⟩ = some u) ∧
          (∃ R', NewI w.heap.size (w.heap.size + 1) (w'.setCell ⟨g, k * 3 + 2, none⟩ (.slice a5 n5 c5)) (.slice a4 n4 c4) R' d (k + 1)) ∧ Below w.heap.size w (w'.setCell ⟨g, k * 3 + 2, none⟩ (.slice a5 n5 c5))) := Lib.hid fun W2 hW2 => by
        refine (opClone_any u f.ops W2 ((hu.stays hbW).stays hW2) (by omega)).mono ?_
        rintro e w' ⟨v', rfl, hown, hb⟩
        have hb2 := below_step hW2 hb
        have hb3 := below_step hbW hb2
        have hN' := hN.stays hb3
        obtain ⟨a5, c5, rfl⟩ := hown.is.len
        have hown' : OwnP15 w.heap.size w' (.slice a5 f.ops.length c5) (d.fs[k]'hko).ops := by rw [← hf]; exact hown.low (show w.heap.size ≤ W2.heap.size from Nat.le_trans hsz (Nat.le_trans hbW.size hW2.size))
        obtain ⟨g, cap', e1, e2, e3, e4, e5, e6, e7⟩ := hN'.next hko hown' (fun j hj hjk g e1 e2 => by
          have h1 := (World.ownsRow.lt hown g e1).1
          have hjd : j < d.fs.length := by rw [← hN.len]; exact hj
          have h2 := (World.ownsRow.lt ((hN.at_ j hj hjd).2.2 hjk) g e2).2
          have h3 := hbW.size; have h4 := hW2.size
          omega)
        cases e1
        refine ⟨a5, _, c5, g, c4, rfl, hN'.row, hRW.step hb2, rfl, by rw [HZ.out], rfl, by rw [HZ.out]; exact e2, by unfold maxLen at e3; omega, e5, e6, e7, ?_⟩
        exact ((hB.trans (hb3.mono hsz)).setCell (p := ⟨g, k * 3 + 2, none⟩) e4 _)
      have HWE := Lib.hid hW
      have hNr := hN.row.step hbW
      obtain ⟨m0, m1, m2, fm⟩ : W.cell? ⟨w.heap.size + 1, 0, none⟩ = some (.slice a4 n4 c4) ∧ W.cell? ⟨w.heap.size + 1, 1, none⟩ = some (.bool d.off) ∧ W.cell? ⟨w.heap.size + 1, 2, none⟩ = some (.int .i64 d.fuse) ∧ ∀ i, W.frozen? ⟨w.heap.size + 1, i, none⟩ = false := by
        have p0 := hNr.cell 0; have p1 := hNr.cell 1; have p2 := hNr.cell 2
        simp only [List.getElem?_toArray, List.getElem?_cons_zero, List.getElem?_cons_succ] at p0 p1 p2
        exact ⟨p0, p1, p2, fun i => hNr.free i⟩
      obtain ⟨r0, r1, r2, fr⟩ := row_cells hRW
      have hlk : w.heap.size + 1 < wr.heap.size := hN.row.lt
      subst hu2
      clear g1 hc hu hf hW hbW hRW hN hB hNr
      go_wp2_with fail
      rw [← HWE.out]
      go_wp2_with fail
      go_region_with (go_at_call 65; refine (CO.out _ (Below.refl _ W).drew).mono ?_; rintro e w4 ⟨a5, n5, c5, g, cap', rfl, hq1, hq2, rfl, rfl, rfl, hle2, hmm2, hfz, ⟨u2, hcu⟩, ⟨R2, hN2⟩, hB2⟩; have HN2 := Lib.hid hN2; have HB2 := Lib.hid hB2; have p0 := hq1.cell 0; simp only [List.getElem?_toArray, List.getElem?_cons_zero] at p0; obtain ⟨r0, r1, r2, fr⟩ := row_cells hq2; clear hN2 hB2 hq1 hq2)
      all_goals
        clear p0 r0 r1 r2 fr
        go_wp2
        go_roundw
        case rel => exact ⟨k + 1, R2, by omega, by go_num, HN2.out, HB2.out⟩
        case measure => simp [intOf]; omega
    · obtain rfl : k = z := by omega
      have hbk : decide ((k : Int) < (k : Int)) = false := by simp
      have HM := Lib.hid (hN.done (by rw [← HZ.out]; exact Nat.le_refl _) (Nat.le_succ _))
      clear hN hB
      go_wp2
      go_ret
      exact ⟨w.heap.size + 1, _, _, rfl, HM.out, HB.out⟩
def wrongW (d : Dsk) (n : ByteArray) (a : Int) (s : ByteArray) : Int := if nameB n.data.toList = false then 7 else if ¬ (0 ≤ a ∧ a + s.size ≤ 262144) then 4 else if fullD d n s then 9 else 0
def wrongR (d : Dsk) (n m : ByteArray) : Int := if nameB m.data.toList = false then 7 else if (getF d.fs n.data.toList).isSome then 0 else 5
theorem fullD_none {d : Dsk} {n s : ByteArray} (h : getF d.fs n.data.toList = none) : fullD d n s ↔ 8 ≤ d.fs.length := by unfold fullD; rw [h]
theorem fullD_some {d : Dsk} {n s : ByteArray} {f : Dfl} (h : getF d.fs n.data.toList = some f) : fullD d n s ↔ s.size ≠ 0 ∧ 200 ≤ f.ops.length := by unfold fullD; rw [h]
set_option maxRecDepth 100000 in
theorem wrongRename_any {B kb : Nat} {v : Value} {R : List Dfr} {d : Dsk} (s t : ByteArray) (w : World) (h : Mch B kb w v R d) (hr : d.fs.Pairwise fun x y => x.t < y.t) (hl : d.fs.length ≤ 1000000) :
    Calls Try.prog 48 #[.pointer (some ⟨kb, 0, none⟩), .string s, .string t] w fun e w' => e = .returned (.int .i64 (wrongR d s t)) ∧ Below w.heap.size w w' := by
  have CN := Lib.hid (Name_any t w)
  have CM := Lib.hid (fun W (hW : Below w.heap.size w W) => missing_any s W (h.stays hW) hr hl)
  rcases hn : nameB t.data.toList with _ | _
  · have HR : Hid (wrongR d s t = 7) := Lib.hid (if_pos hn)
    rw [hn] at CN
    clear hn
    go_enter Try.func48, Try.ntmps48
    go_wp2_with fail
    refine CN.out.mono ?_
    rintro e w1 ⟨rfl, hb⟩
    go_wp2
    go_ret
    exact ⟨by rw [HR.out]; rfl, hb⟩
  · have HR : Hid (wrongR d s t = if (getF d.fs s.data.toList).isSome then 0 else 5) := Lib.hid (if_neg (by rw [hn]; simp))
    rw [hn] at CN
    clear hn
    obtain ⟨m, hm⟩ : ∃ m : Int, m = if (getF d.fs s.data.toList).isSome then 0 else 5 := ⟨_, rfl⟩
    rw [← hm] at CM HR
    clear hm
    go_enter Try.func48, Try.ntmps48
    go_wp2_with fail
    refine CN.out.mono ?_
    rintro e w1 ⟨rfl, hb⟩
    have HB := Lib.hid hb
    clear hb
    go_wp2_with fail
    refine (CM.out _ HB.out).mono ?_
    rintro e w2 ⟨rfl, hb2⟩
    go_wp2
    go_ret
    exact ⟨by rw [HR.out]; rfl, below_step HB.out hb2⟩
set_option maxRecDepth 100000 in
set_option maxHeartbeats 4000000 in
theorem wrongWrite_any {B kb : Nat} {v : Value} {R : List Dfr} {d : Dsk} (n : ByteArray) (a : Int) (s : ByteArray) (w : World) (h : Mch B kb w v R d) (hr : d.fs.Pairwise fun x y => x.t < y.t) (hl : d.fs.length ≤ 1000000) (ha : a ≤ 9223372036854775807) (hs : s.size ≤ 1000000000) :
    Calls Try.prog 37 #[.pointer (some ⟨kb, 0, none⟩), .string n, .int .i64 a, .string s] w fun e w' => e = .returned (.int .i64 (wrongW d n a s)) ∧ Below w.heap.size w w' := by
  have CP := Lib.hid (place_any_Dlh (B := B) n w h.own.rws h.cell.1 h.names hr (by rw [h.rows.len]; exact hl))
  have CN := Lib.hid (fun W => Name_any n W)
  have CI := Lib.hid (fun W => inside_any a s W ha hs)
  have HM := Lib.hid h
  have HAT := Lib.hid (getF_cnt hr n.data.toList)
  obtain ⟨k, hk⟩ : ∃ k, k = cntF d.fs n.data.toList := ⟨_, rfl⟩
  have HK := Lib.hid hk
  rw [← hk] at CP
  clear hk
  rcases hn : nameB n.data.toList with _ | _
  · have HR : Hid (wrongW d n a s = 7) := Lib.hid (if_pos hn)
    rw [hn] at CN
    clear hn h
    go_enter Try.func37, Try.ntmps37
    go_wp2_with fail
    refine CP.out.mono ?_
    rintro e w1 ⟨rfl, hb⟩
    have HB := Lib.hid hb
    clear hb
    go_wp2_with fail
    refine (CN.out _).mono ?_
    rintro e w2 ⟨rfl, hb2⟩
    go_wp2
    go_ret
    exact ⟨by rw [HR.out]; rfl, below_step HB.out hb2⟩
  by_cases hin : 0 ≤ a ∧ a + s.size ≤ 262144
  · have hin2 := decide_eq_true hin
    have HR : Hid (wrongW d n a s = if fullD d n s then 9 else 0) := Lib.hid (by unfold wrongW; rw [if_neg (by rw [hn]; simp), if_neg (by simpa using hin)])
    rw [hn] at CN
    rw [hin2] at CI
    clear hn hin hin2
    cases hg : getF d.fs n.data.toList with
    | none =>
      have HF := Lib.hid (fullD_none (s := s) hg)
      rw [hg] at CP
      clear hg
      obtain ⟨_, a1, cap1, hv1, _, _⟩ := h.own.rws
      have hlen := h.rows.len
      rw [hlen] at hv1
      subst hv1
      have hb8 : decide ((d.fs.length : Int) ≥ 8) = decide (8 ≤ d.fs.length) := by apply decide_eq_decide.2; omega
      by_cases h8 : 8 ≤ d.fs.length
      · have HR2 : Hid (wrongW d n a s = 9) := Lib.hid (by rw [HR.out, if_pos (HF.out.2 h8)])
        have hd8 : decide (8 ≤ (d.fs.length : Int)) = true := decide_eq_true (by omega)
        clear hb8 h8 h hlen HF HR
        go_enter Try.func37, Try.ntmps37
        go_wp2_with fail
        refine CP.out.mono ?_
        rintro e w1 ⟨rfl, hb⟩
        have HB := Lib.hid hb
        clear hb
        go_wp2_with fail
        refine (CN.out _).mono ?_
        rintro e w2 ⟨rfl, hb2⟩
        have HB2 := Lib.hid (below_step HB.out hb2)
        clear hb2
        go_wp2_with fail
        refine (CI.out _).mono ?_
        rintro e w3 ⟨rfl, rfl⟩
        obtain ⟨m0, m1, m2, fm⟩ := (HM.out.stays HB2.out).cell
        go_wp2
        go_ret
        exact ⟨by rw [HR2.out]; rfl, HB2.out⟩
      · have HR2 : Hid (wrongW d n a s = 0) := Lib.hid (by rw [HR.out, if_neg (fun c => h8 (HF.out.1 c))])
        have hd8 : decide (8 ≤ (d.fs.length : Int)) = false := decide_eq_false (by omega)
        clear hb8 h8 h hlen HF HR
        go_enter Try.func37, Try.ntmps37
        go_wp2_with fail
        refine CP.out.mono ?_
        rintro e w1 ⟨rfl, hb⟩
        have HB := Lib.hid hb
        clear hb
        go_wp2_with fail
        refine (CN.out _).mono ?_
        rintro e w2 ⟨rfl, hb2⟩
        have HB2 := Lib.hid (below_step HB.out hb2)
        clear hb2
        go_wp2_with fail
        refine (CI.out _).mono ?_
        rintro e w3 ⟨rfl, rfl⟩
        obtain ⟨m0, m1, m2, fm⟩ := (HM.out.stays HB2.out).cell
        go_wp2
        go_ret
        exact ⟨by rw [HR2.out]; rfl, HB2.out⟩
    | some f =>
      have HF := Lib.hid (fullD_some (s := s) hg)
      obtain ⟨hkl, hkf⟩ : ∃ h : k < d.fs.length, d.fs[k] = f := by
        rcases HAT.out with ⟨h1, h2, h3⟩ | ⟨h1, _⟩
        · rw [← HK.out] at h1
          refine ⟨h1, ?_⟩
          simp only [HK.out]
          rw [hg] at h3
          exact (Option.some.inj h3).symm
        · rw [hg] at h1; cases h1
      have hkR : k < R.length := by rw [h.rows.len]; exact hkl
      have HRK : Hid (∀ W, Below w.heap.size w W → RowP B W (R[k]'hkR) f) := Lib.hid fun W hW => by
        have := (h.rows.get k hkR hkl).stays hW
        rwa [hkf] at this
      rw [hg] at CP
      have hlR := h.rows.len
      clear hg hkf h HAT
      obtain ⟨y, hy⟩ : ∃ y, y = R[k]'hkR := ⟨_, rfl⟩
      rw [← hy] at HRK
      have HY := Lib.hid hy
      have hyz : y.z = f.ops.length := by
        obtain ⟨_, _, e⟩ := (HRK.out w (Below.refl _ _)).2.2.is.len
        exact (Value.slice.inj e).2.1
      obtain ⟨yn, yd, ya, yz, yc⟩ := y
      dsimp only at hyz HRK
      subst hyz
      have hbk : decide ((k : Int) < (R.length : Int)) = true := decide_eq_true (by omega)
      have hl9 : R.length ≤ 9223372036854775807 := by omega
      clear hy
      have HRWS : Hid (∀ W, Below w.heap.size w W → IsRws W v R) := Lib.hid fun W hW => HM.out.own.rws.stays hW
      by_cases h2 : 200 ≤ f.ops.length
      · have hd2 : decide (200 ≤ (f.ops.length : Int)) = true := decide_eq_true (by omega)
        by_cases h0 : s.size = 0
        · have HR2 : Hid (wrongW d n a s = 0) := Lib.hid (by rw [HR.out, if_neg (fun c => (HF.out.1 c).1 h0)])
          have e0 : (s.toList == (⟨#[]⟩ : ByteArray).toList) = true := by rw [empty_str]; exact decide_eq_true h0
          have e1 : s.toList.isEmpty = true := by rw [Lib.toList_data, List.isEmpty_iff]; exact List.eq_nil_of_length_eq_zero (by rw [dsize]; exact h0)
          clear h0 h2 HF HR
          go_enter Try.func37, Try.ntmps37
          go_wp2_with fail
          refine CP.out.mono ?_
          rintro e w1 ⟨rfl, hb⟩
          have HB := Lib.hid hb
          clear hb
          go_wp2_with fail
          refine (CN.out _).mono ?_
          rintro e w2 ⟨rfl, hb2⟩
          have HB2 := Lib.hid (below_step HB.out hb2)
          clear hb2
          go_wp2_with fail
          refine (CI.out _).mono ?_
          rintro e w3 ⟨rfl, rfl⟩
          obtain ⟨m0, m1, m2, fm⟩ := (HM.out.stays HB2.out).cell
          obtain ⟨_, a1, cap1, hv1, _, hc1⟩ := HRWS.out w2 HB2.out
          subst hv1
          obtain ⟨b1, o1, rfl, hbl, g1⟩ := hc1 (by omega)
          obtain ⟨c0, c1, c2⟩ := g1 k hkR
          rw [← HY.out] at c0 c1 c2
          dsimp only at c0 c1 c2
          clear g1 hc1
          go_wp2
          go_ret
          exact ⟨by rw [HR2.out]; rfl, HB2.out⟩
        · have HR2 : Hid (wrongW d n a s = 9) := Lib.hid (by rw [HR.out, if_pos (HF.out.2 ⟨h0, h2⟩)])
          have e0 : (s.toList == (⟨#[]⟩ : ByteArray).toList) = false := by rw [empty_str]; exact decide_eq_false h0
          have e1 : s.toList.isEmpty = false := by
            rw [Lib.toList_data]
            cases he : s.data.toList with
            | nil => exact absurd (by rw [← dsize, he]; rfl) h0
            | cons x l => rfl
          clear h0 h2 HF HR
          go_enter Try.func37, Try.ntmps37
          go_wp2_with fail
          refine CP.out.mono ?_
          rintro e w1 ⟨rfl, hb⟩
          have HB := Lib.hid hb
          clear hb
          go_wp2_with fail
          refine (CN.out _).mono ?_
          rintro e w2 ⟨rfl, hb2⟩
          have HB2 := Lib.hid (below_step HB.out hb2)
          clear hb2
          go_wp2_with fail
          refine (CI.out _).mono ?_
          rintro e w3 ⟨rfl, rfl⟩
          obtain ⟨m0, m1, m2, fm⟩ := (HM.out.stays HB2.out).cell
          obtain ⟨_, a1, cap1, hv1, _, hc1⟩ := HRWS.out w2 HB2.out
          subst hv1
          obtain ⟨b1, o1, rfl, hbl, g1⟩ := hc1 (by omega)
          obtain ⟨c0, c1, c2⟩ := g1 k hkR
          rw [← HY.out] at c0 c1 c2
          dsimp only at c0 c1 c2
          clear g1 hc1
          go_wp2
          go_ret
          exact ⟨by rw [HR2.out]; rfl, HB2.out⟩
      · have HR2 : Hid (wrongW d n a s = 0) := Lib.hid (by rw [HR.out, if_neg (fun c => h2 (HF.out.1 c).2)])
        have hd2 : decide (200 ≤ (f.ops.length : Int)) = false := decide_eq_false (by omega)
        clear h2 HF HR
        go_enter Try.func37, Try.ntmps37
        go_wp2_with fail
        refine CP.out.mono ?_
        rintro e w1 ⟨rfl, hb⟩
        have HB := Lib.hid hb
        clear hb
        go_wp2_with fail
        refine (CN.out _).mono ?_
        rintro e w2 ⟨rfl, hb2⟩
        have HB2 := Lib.hid (below_step HB.out hb2)
        clear hb2
        go_wp2_with fail
        refine (CI.out _).mono ?_
        rintro e w3 ⟨rfl, rfl⟩
        obtain ⟨m0, m1, m2, fm⟩ := (HM.out.stays HB2.out).cell
        obtain ⟨_, a1, cap1, hv1, _, hc1⟩ := HRWS.out w2 HB2.out
        subst hv1
        obtain ⟨b1, o1, rfl, hbl, g1⟩ := hc1 (by omega)
        obtain ⟨c0, c1, c2⟩ := g1 k hkR
        rw [← HY.out] at c0 c1 c2
        dsimp only at c0 c1 c2
        clear g1 hc1
        go_wp2
        go_ret
        exact ⟨by rw [HR2.out]; rfl, HB2.out⟩
  · have hin2 := decide_eq_false hin
    have HR : Hid (wrongW d n a s = 4) := Lib.hid (by unfold wrongW; rw [if_neg (by rw [hn]; simp), if_pos hin])
    rw [hn] at CN
    rw [hin2] at CI
    clear hn hin hin2 h
    go_enter Try.func37, Try.ntmps37
    go_wp2_with fail
    refine CP.out.mono ?_
    rintro e w1 ⟨rfl, hb⟩
    have HB := Lib.hid hb
    clear hb
    go_wp2_with fail
    refine (CN.out _).mono ?_
    rintro e w2 ⟨rfl, hb2⟩
    have HB2 := Lib.hid (below_step HB.out hb2)
    clear hb2
    go_wp2_with fail
    refine (CI.out _).mono ?_
    rintro e w3 ⟨rfl, rfl⟩
    go_wp2
    go_ret
    exact ⟨by rw [HR.out]; rfl, HB2.out⟩
theorem withF_less {x : Dfl} : ∀ {L : List Dfl}, L.Pairwise (fun x y => x.t < y.t) → withF (lessF L x.t) x = withF L x
  | [], _ => rfl
  | y :: l, h => by
    obtain ⟨h1, h2⟩ := List.pairwise_cons.1 h
    have ih := withF_less (x := x) h2
    by_cases g1 : y.t < x.t
    · have hne : ¬ y.t = x.t := fun e => t_irrefl x.t (by rwa [e] at g1)
      have e : lessF (y :: l) x.t = y :: lessF l x.t := by unfold lessF; rw [List.filter_cons_of_pos (by simpa using hne)]
      rw [e]
      show (if _ then _ else _) = (if _ then _ else _)
      rw [if_pos g1, if_pos g1, ih]
    · by_cases g2 : y.t = x.t
      · have e : lessF (y :: l) x.t = l := by
          unfold lessF
          rw [List.filter_cons_of_neg (by simpa using g2), List.filter_eq_self.2]
          intro z hz
          simp only [decide_eq_true_eq]
          exact fun c => t_irrefl z.t (by have := h1 z hz; rwa [g2, ← c] at this)
        rw [e]
        show _ = (if _ then _ else if _ then _ else _)
        rw [if_neg g1, if_pos g2]
        cases l with
        | nil => rfl
        | cons z l =>
          have := h1 z (List.mem_cons_self ..)
          rw [g2] at this
          show (if _ then _ else if _ then _ else _) = _
          rw [if_neg (t_asymm this), if_neg (fun c => t_irrefl x.t (by rwa [c] at this))]
      · have g3 : x.t < y.t := Classical.byContradiction fun c => g2 (t_tri _ _ g1 c)
        have e : lessF (y :: l) x.t = y :: l := by
          unfold lessF
          refine List.filter_eq_self.2 fun z hz => ?_
          simp only [decide_eq_true_eq]
          rcases List.mem_cons.1 hz with rfl | hz
          · exact g2
          · exact fun c => t_irrefl x.t (by have := t_trans g3 (h1 z hz); rwa [c] at this)
        rw [e]
theorem wroteF_eq {d : Dsk} (hr : d.fs.Pairwise fun x y => x.t < y.t) (n : ByteArray) (a : Int) (s : ByteArray) {f0 : Dfl} (h : f0 = (getF d.fs n.data.toList).getD ⟨⟨#[]⟩, ⟨#[]⟩, []⟩) :
    wroteF d n a s = if s.size = 0 then ⟨n, f0.d, f0.ops⟩ else ⟨n, f0.d, f0.ops ++ [⟨a, s⟩]⟩ := by
  unfold wroteF
  cases hg : getF d.fs n.data.toList with
  | none => rw [hg] at h; subst h; rfl
  | some f =>
    rw [hg] at h
    have hn : f.n = n := str_txt.2 ((getF_some hr).1 hg).2
    have e : f0 = f := h
    subst e
    dsimp only
    rw [Option.getD_some, hn]
    split
    · exact dfl_ext hn rfl rfl
    · rfl
theorem step_append_dop {ops : Array Oper} {o : Oper} {a : Act} {B : Nat} {w0 : World} {K : Act → World → Prop} {Q : Exit → Act → World → Prop} {E : Prop} (hgd : o.guard = none) (s x : Operand)
    (ho : o.op = .call { callee := .builtin .append, args := #[s, x], argTypes := #[45, 45] })
    {v : Value} {M : List Dop} {y : Dop} (hown : OwnP15 B w0 v M) (hBs : B ≤ w0.heap.size) (hs : a.eval s = v)
    (hx : a.eval x = .slice (some ⟨w0.heap.size, 0, none⟩) 1 1) (hlen : M.length ≤ 1000000)
    (h : ∀ v' w', OwnP15 B w' v' (M ++ [y]) → w0.grownBy w' v.ownBlock → (v'.ownBlock = v.ownBlock ∨ ∃ g, v'.ownBlock = some g ∧ w0.heap.size ≤ g) → K (a.put o.dst v') w') :
    if Region.wanted o (yielded ops a.tmps) = true then Oper.wp Try.prog o a (w0.alloc (.cells #[.int .i64 y.at_, .string y.d] 52)) K Q else E := by
  have hw : Region.wanted o (yielded ops a.tmps) = true := by simp [Region.wanted, hgd]
  rw [if_pos hw]
  obtain ⟨i0, hi, hz0, hz1, hz2⟩ := info_parts infoOp
  obtain ⟨v', w', hr, ho', hg, _, hat⟩ := run_append_own_at (P := Try.prog) (w0.alloc (.cells #[.int .i64 y.at_, .string y.d] 52)) B 45 o.type 52 i0 (dopV zeroDop) 2 24 Try.underlying45 hi hz0 hz1 hz2 rfl (by decide) v M.length (dopCells M) (World.ownsRow.alloc hown _) ⟨w0.heap.size, 0, none⟩ 1 1 (dopC y) rfl dop_cell_Dla (fun u hu => by simp at hu; rcases hu with rfl | rfl <;> rfl) (by unfold maxLen; omega) (by omega) (by simp; omega)
  unfold Oper.wp execOp
  simp only [ho, resolve, invoke, builtin, Sem.run_bind, Sem.run_pure, Result.andThen_ok, List.map_toArray, List.map_cons, List.map_nil, hs, hx, hr]
  refine h v' w' ?_ (grown_after_Dla (World.grownBy_alloc w0 _ none) hg) (hat.imp id fun e => ⟨_, e, by simp⟩)
  unfold OwnP15
  rw [List.length_append, dopCells_app]
  have : dopCells [y] = dopC y := List.append_nil _
  rw [this]; exact ho'
theorem step_callx {P : Program} {ops : Array Oper} {o : Oper} {a : Act} {w : World} {K : Act → World → Prop} {Q : Exit → Act → World → Prop} {E : Prop} (hgd : o.guard = none) (f : FuncId) (args : Array Operand) (tys : Array TypeId) (ho : o.op = .call { callee := .value (.func f), args := args, argTypes := tys })
    (hen : ∀ xs w, (callFunc f xs).run P w = .ok (.enter f xs) w) (xs : Array Value) (hxs : args.map a.eval = xs) (v : Value) {R : World → Prop} (h : Calls P f xs w fun e w' => e = .returned v ∧ R w') (hk : ∀ w', R w' → K (a.put o.dst v) w') :
    if Region.wanted o (yielded ops a.tmps) = true then Oper.wp P o a w K Q else E := by
  have hw : Region.wanted o (yielded ops a.tmps) = true := by simp [Region.wanted, hgd]
  rw [if_pos hw]
  exact wp_callf f args tys ho hen xs hxs v h hk
set_option maxRecDepth 100000 in
set_option maxHeartbeats 4000000 in
theorem write_any (B kb : Nat) (v : Value) (R : List Dfr) (d : Dsk) (n : ByteArray) (a : Int) (s : ByteArray) (w : World) (h : Mch B kb w v R d) (hB : B ≤ w.heap.size) (hr : d.fs.Pairwise fun x y => x.t < y.t) (hl : d.fs.length ≤ 1000) (hns : n.size ≤ 1000000) (hss : s.size ≤ 1000000) (ho : ∀ f ∈ d.fs, f.ops.length ≤ 1000) :
    Calls Try.prog 39 #[.pointer (some ⟨kb, 0, none⟩), .string n, .int .i64 a, .string s] w (PutR B kb ⟨lessF d.fs n.data.toList, d.off, d.fuse⟩ (wroteF d n a s) w) := by
  have CT := Lib.hid (take_any B kb v R d n w h hB hr hl)
  have h0M := h
  obtain ⟨f0, hf0⟩ : ∃ f0, f0 = (getF d.fs n.data.toList).getD ⟨⟨#[]⟩, ⟨#[]⟩, []⟩ := ⟨_, rfl⟩
  have HW := Lib.hid (wroteF_eq hr n a s hf0)
  have hops : f0.ops.length ≤ 1000 := by
    cases hg : getF d.fs n.data.toList with
    | none => rw [hg] at hf0; subst hf0; exact Nat.zero_le _
    | some f => rw [hg] at hf0; have e : f0 = f := hf0; subst e; exact ho _ ((getF_some hr).1 hg).1
  have CN := Lib.hid (fun W => Clone_any_Pap n (by omega) W)
  have CS := Lib.hid (fun W => Clone_any_Pap s (by omega) W)
  have hlr := lessF_rise (t := n.data.toList) hr
  have hll := lessF_len d.fs n.data.toList
  have hng : getF (lessF d.fs n.data.toList) n.data.toList = none := by rw [lessF_get hr, if_pos rfl]
  obtain ⟨L, hL⟩ : ∃ L, L = lessF d.fs n.data.toList := ⟨_, rfl⟩
  rw [← hL] at hlr hll hng ⊢
  have CP := Lib.hid (fun W v' R' r (x : Dfl) (hM : Mch B kb W v' R' ⟨L, d.off, d.fuse⟩) (hx : RowP B W r x) (hBW : B ≤ W.heap.size) (hxt : x.t = n.data.toList) (hsp : ∀ y ∈ R', SepR r y) => put_any B kb v' R' ⟨L, d.off, d.fuse⟩ r x W hM hx hBW hlr (by show L.length ≤ 1000; omega) (by rw [hxt]; exact hng) hsp)
  have HF0 := Lib.hid hf0; have HL := Lib.hid hL
  clear h hr hlr hll hng ho hf0 hL
  go_enter Try.func39, Try.ntmps39
  go_wp2_with fail
  refine CT.out.mono ?_
  rintro e w1 ⟨r, v1, R1, rfl, hM, hP, hsep, hb1, _, _, hfr⟩
  have HT1 := Lib.hid (h0M.frame hfr)
  have HSEP := Lib.hid hsep
  rw [← HF0.out] at hP
  rw [← HL.out] at hM
  have hB1 : B ≤ w1.heap.size := Nat.le_trans hB hb1.size
  obtain ⟨V, hV⟩ : ∃ V, V = w1.alloc (.cells #[.string r.n, .string r.d, .slice r.a r.z r.c] 47) := ⟨_, rfl⟩
  have hbV : Below w1.heap.size w1 V := by rw [hV]; exact (Below.refl _ _).alloc (Nat.le_refl _) _
  have hRb : Row V w1.heap.size #[.string r.n, .string r.d, .slice r.a r.z r.c] 47 := by rw [hV]; exact Row.made _ _ _
  have HV := Lib.hid hV
  have HMV := Lib.hid (hM.stays hbV); have HPV := Lib.hid (hP.stays hbV); have HBV := Lib.hid (hb1.trans (hbV.mono hB1)); have HRB := Lib.hid hRb
  have HNE : Hid (v1.ownBlock ≠ some w1.heap.size) := Lib.hid fun e => by have := (World.ownsRow.lt hM.own _ e).2; omega
  have HTV := Lib.hid (HT1.out.trans (KeepT.below hbV))
  clear hM hP hb1 hV hbV hRb hsep hfr h0M
  go_wp2_with fail
  rw [← HV.out]
  refine (CN.out _).mono ?_
  rintro e w2 ⟨rfl, hb2⟩
  -- the box with its name
  have hR2 := HRB.out.step hb2
  have hM2 := HMV.out.stays hb2
  have hP2 := HPV.out.stays hb2
  have hB2 := HBV.out.trans (hb2.mono (by have := HBV.out.size; omega))
  have HR3 := Lib.hid (hR2.set 0 (.string n))
  have HM3 := Lib.hid (hM2.box hR2 HNE.out 0 (.string n))
  have HP3 := Lib.hid (hP2.box hR2 0 (.string n))
  have HB3 := Lib.hid (hB2.setCell (p := ⟨w1.heap.size, 0, none⟩) hB1 (.string n))
  have HT3 := Lib.hid ((HTV.out.trans (KeepT.below hb2)).trans (KeepT.set hR2 (.inr (.inl rfl)) 0 (.string n)))
  obtain ⟨r0, r1, r2, fr⟩ := row_cells hR2
  have hlt := hR2.lt
  clear hb2 hR2 hM2 hP2 hB2
  have hBs : B ≤ w2.heap.size := by omega
  by_cases h0 : s.size = 0
  · have e1 : s.toList.isEmpty = true := by rw [Lib.toList_data, List.isEmpty_iff]; exact List.eq_nil_of_length_eq_zero (by rw [dsize]; exact h0)
    have HWE : Hid (wroteF d n a s = ⟨n, f0.d, f0.ops⟩) := Lib.hid (by rw [HW.out, if_pos h0])
    have CP2 := Lib.hid (CP.out _ v1 R1 ⟨n, r.d, r.a, r.z, r.c⟩ ⟨n, f0.d, f0.ops⟩ HM3.out ⟨rfl, HP3.out.2.1, HP3.out.2.2⟩ (by simpa [World.setCell] using hBs) rfl (fun y hy => HSEP.out y hy))
    clear h0 HW CP
    go_wp2_with fail
    refine CP2.out.mono ?_
    rintro e w4 ⟨v4, R4, rfl, hM4, hB4, hT4⟩
    go_wp2
    go_end0
    exact ⟨v4, R4, rfl, by rw [HWE.out]; exact hM4, HB3.out.trans hB4, HT3.out.trans hT4⟩
  · have e1 : s.toList.isEmpty = false := by
      rw [Lib.toList_data]
      cases he : s.data.toList with
      | nil => exact absurd (by rw [← dsize, he]; rfl) h0
      | cons x l => rfl
    have HWE : Hid (wroteF d n a s = ⟨n, f0.d, f0.ops ++ [⟨a, s⟩]⟩) := Lib.hid (by rw [HW.out, if_neg h0])
    clear h0 HW
    go_wp2_with fail
    obtain ⟨W, hW⟩ : ∃ W, W = w2.setCell ⟨w1.heap.size, 0, none⟩ (.string n) := ⟨_, rfl⟩
    rw [← hW] at HR3 HM3 HP3 HB3 HT3 ⊢
    have hWs : W.heap.size = w2.heap.size := by rw [hW]; simp [World.setCell]
    clear hW r0 r1 r2 fr
    obtain ⟨r0, r1, r2, fr⟩ : W.cell? ⟨w1.heap.size, 0, none⟩ = some (.string n) ∧ W.cell? ⟨w1.heap.size, 1, none⟩ = some (.string r.d) ∧ W.cell? ⟨w1.heap.size, 2, none⟩ = some (.slice r.a r.z r.c) ∧ ∀ i, W.frozen? ⟨w1.heap.size, i, none⟩ = false := row_cells HR3.out
    have CS2 : Hid (∀ W2, Below W.heap.size W W2 → Calls Try.prog 66 #[.string s] W2 fun e w' => e = .returned (.string s) ∧ Below W.heap.size W w' ∧ Row w' w1.heap.size #[.string n, .string r.d, .slice r.a r.z r.c] 47) := Lib.hid fun W2 hW2 => by
      refine (CS.out W2).mono ?_
      rintro e w' ⟨rfl, hb⟩
      exact ⟨rfl, below_step hW2 hb, HR3.out.step (below_step hW2 hb)⟩
    have hlW : w1.heap.size < W.heap.size := HR3.out.lt
    have HFIN : Hid (∀ w4 w5 a5 n5 c5, Below W.heap.size W w4 → Row w4 w1.heap.size #[.string n, .string r.d, .slice r.a r.z r.c] 47 → OwnP15 B w5 (.slice a5 n5 c5) (f0.ops ++ [⟨a, s⟩]) → w4.grownBy w5 (Value.slice r.a r.z r.c).ownBlock → ((Value.slice a5 n5 c5).ownBlock = (Value.slice r.a r.z r.c).ownBlock ∨ ∃ g, (Value.slice a5 n5 c5).ownBlock = some g ∧ w4.heap.size ≤ g) →
        Row w5 w1.heap.size #[.string n, .string r.d, .slice r.a r.z r.c] 47 ∧
        (∃ v4 R4, Calls Try.prog 45 #[.pointer (some ⟨kb, 0, none⟩), dfrV ⟨n, r.d, a5, n5, c5⟩] (w5.setCell ⟨w1.heap.size, 2, none⟩ (.slice a5 n5 c5)) (PutR B kb ⟨L, d.off, d.fuse⟩ ⟨n, f0.d, f0.ops ++ [⟨a, s⟩]⟩ (w5.setCell ⟨w1.heap.size, 2, none⟩ (.slice a5 n5 c5))) ∧ v4 = v1 ∧ R4 = R1) ∧ Below B w (w5.setCell ⟨w1.heap.size, 2, none⟩ (.slice a5 n5 c5)) ∧ KeepT w (w5.setCell ⟨w1.heap.size, 2, none⟩ (.slice a5 n5 c5))) := Lib.hid fun w4 w5 a5 n5 c5 h1 h2 h3 h4 h5 => by
      have hM4 := HM3.out.stays h1
      have hP4 := HP3.out.stays h1
      have hne : (Value.slice r.a r.z r.c).ownBlock ≠ some w1.heap.size := hP4.2.2.apart h2 (by decide)
      have hR5 : Row w5 w1.heap.size #[.string n, .string r.d, .slice r.a r.z r.c] 47 := by
        unfold Row; rw [h4.block _ h2.lt (fun e => hne e.symm)]; exact h2
      have hnk : (Value.slice r.a r.z r.c).ownBlock ≠ some kb := hP4.2.2.apart hM4.row (by decide)
      have hk5 : Row w5 kb #[v1, .bool d.off, .int .i64 d.fuse] 57 := by
        unfold Row; rw [h4.block _ hM4.row.lt (fun e => hnk e.symm)]; exact hM4.row
      have hv5 : OwnD B w5 v1 R1 := World.ownsRow.kept hM4.own h4 (by
        cases hv : v1.ownBlock with
        | none => exact .inl rfl
        | some g =>
          refine .inr fun e => ?_
          obtain ⟨xs, hx⟩ := hM4.own.row hv
          exact hP4.2.2.apart hx (by decide) e.symm)
      have hrw5 : ∀ y x, y ∈ R1 → RowP B w4 y x → RowP B w5 y x := fun y x hy hr => ⟨hr.1, hr.2.1, hr.2.2.grown h4 (by
        cases hv : (Value.slice y.a y.z y.c).ownBlock with
        | none => exact .inl rfl
        | some g => exact .inr fun e => HSEP.out y hy g e.symm hv)⟩
      have hrows5 : RowsS (RowP B w5) R1 L := rows_of_get hM4.rows.len fun i i1 i2 => hrw5 _ _ (List.getElem_mem i1) (hM4.rows.get i i1 i2)
      have hM5 : Mch B kb w5 v1 R1 ⟨L, d.off, d.fuse⟩ := ⟨hk5, hv5, hrows5, hM4.from_, hM4.sep⟩
      have hB4 := HB3.out.trans (h1.mono (by omega))
      have hB5 : Below B w w5 := hB4.grown h4 (Nat.le_trans hBs (by rw [← hWs]; exact h1.size)) (fun g e => (World.ownsRow.lt hP4.2.2 g e).1)
      refine ⟨hR5, ⟨v1, R1, CP.out _ v1 R1 ⟨n, r.d, a5, n5, c5⟩ ⟨n, f0.d, f0.ops ++ [⟨a, s⟩]⟩ (hM5.box hR5 HNE.out 2 _) (RowP.box (show RowP B w5 ⟨n, r.d, a5, n5, c5⟩ ⟨n, f0.d, f0.ops ++ [⟨a, s⟩]⟩ from ⟨rfl, hP4.2.1, h3⟩) hR5 2 _) (by have := hB5.size; simp [World.setCell]; omega) rfl ?_, rfl, rfl⟩, hB5.setCell (p := ⟨w1.heap.size, 2, none⟩) hB1 _, ((HT3.out.trans (KeepT.below h1)).trans (KeepT.grown h4 fun g e => by obtain ⟨xs, hx⟩ := hP4.2.2.row e; exact ⟨xs, _, hx, .inr (.inr rfl)⟩)).trans (KeepT.set hR5 (.inr (.inl rfl)) 2 _)⟩
      intro y hy g e1 e2
      rcases h5 with h5 | ⟨g', h5, h6⟩
      · exact HSEP.out y hy g (by unfold obk; rw [← h5]; exact e1) e2
      · have e3 : g = g' := by
          have : obk ⟨n, r.d, a5, n5, c5⟩ = some g' := h5
          rw [e1] at this; exact Option.some.inj this
        obtain ⟨i, hi, rfl⟩ := List.getElem_of_mem hy
        have := (World.ownsRow.lt (hM4.rows.get i hi (by rw [← hM4.rows.len]; exact hi)).2.2 g e2).2
        omega
    go_region_law (first
      | (refine step_callx rfl 66 _ _ rfl (enters_of Try.func66 (by kernel_rfl) rfl) #[.string s] (by simp [go_sem]) (.string s) (CS2.out _ (Below.refl _ W).drew) ?_; rintro w4 ⟨hq1, hq2⟩; have HQ1 := Lib.hid hq1; have HQ2 := Lib.hid hq2; have hs4 : w1.heap.size < w4.heap.size := Nat.lt_of_lt_of_le hlW hq1.size; obtain ⟨q0, q1, q2, fq⟩ := row_cells hq2; clear hq1 hq2)
      | (refine step_append_dop (B := B) (M := f0.ops) (y := ⟨a, s⟩) rfl _ _ rfl (HP3.out.2.2.stays HQ1.out) (Nat.le_trans hB1 (Nat.le_of_lt hs4)) rfl rfl (by omega) ?_; intro v5 w5 ho5 hg5 hat5; obtain ⟨a5, c5, hv5⟩ := ho5.is.len; rw [List.length_append, List.length_singleton] at hv5; subst hv5; obtain ⟨hu1, hu2, hu3, hu4⟩ := HFIN.out w4 w5 a5 _ c5 HQ1.out HQ2.out ho5 hg5 hat5; have HU2 := Lib.hid hu2; have HU3 := Lib.hid hu3; have HU4 := Lib.hid hu4; obtain ⟨q0, q1, q2, fq⟩ := row_cells hu1; have hl5 := hg5.size; clear hu1 hu2 hu3 hu4 ho5 hg5 hat5))
    all_goals
      obtain ⟨_, _, hp, _, _⟩ := HU2.out
      have HPP := Lib.hid hp
      clear hp
      go_wp2_with fail
      refine HPP.out.mono ?_
      rintro e w6 ⟨v4, R4, rfl, hM4, hB4, hT4⟩
      go_wp2
      go_end0
      exact ⟨v4, R4, rfl, by rw [HWE.out]; exact hM4, HU3.out.trans hB4, HU4.out.trans hT4⟩
set_option maxRecDepth 100000 in
set_option maxHeartbeats 4000000 in
theorem rename_any (B kb : Nat) (v : Value) (R : List Dfr) (d : Dsk) (n m : ByteArray) (f : Dfl) (w : World) (h : Mch B kb w v R d) (hB : B ≤ w.heap.size) (hr : d.fs.Pairwise fun x y => x.t < y.t) (hl : d.fs.length ≤ 1000) (hms : m.size ≤ 1000000) (hg : getF d.fs n.data.toList = some f) :
    Calls Try.prog 50 #[.pointer (some ⟨kb, 0, none⟩), .string n, .string m] w (PutR B kb ⟨lessF d.fs n.data.toList, d.off, d.fuse⟩ ⟨m, f.d, f.ops⟩ w) := by
  have CT := Lib.hid (take_any B kb v R d n w h hB hr hl)
  have CN := Lib.hid (fun W => Clone_any_Pap m (by omega) W)
  have hlr := lessF_rise (t := n.data.toList) hr
  have hll := lessF_len d.fs n.data.toList
  obtain ⟨L, hL⟩ : ∃ L, L = lessF d.fs n.data.toList := ⟨_, rfl⟩
  have hng : getF (lessF L m.data.toList) m.data.toList = none := by rw [lessF_get (by rw [hL]; exact hlr), if_pos rfl]
  rw [← hL] at hlr hll ⊢
  have hwl : withF (lessF L m.data.toList) ⟨m, f.d, f.ops⟩ = withF L ⟨m, f.d, f.ops⟩ := withF_less (x := ⟨m, f.d, f.ops⟩) hlr
  have CT2 := Lib.hid (fun W v' R' (hM : Mch B kb W v' R' ⟨L, d.off, d.fuse⟩) (hBW : B ≤ W.heap.size) => take_any B kb v' R' ⟨L, d.off, d.fuse⟩ m W hM hBW hlr (by show L.length ≤ 1000; omega))
  have CP := Lib.hid (fun W v' R' r (hM : Mch B kb W v' R' ⟨lessF L m.data.toList, d.off, d.fuse⟩) (hx : RowP B W r ⟨m, f.d, f.ops⟩) (hBW : B ≤ W.heap.size) (hsp : ∀ y ∈ R', SepR r y) => put_any B kb v' R' ⟨lessF L m.data.toList, d.off, d.fuse⟩ r ⟨m, f.d, f.ops⟩ W hM hx hBW (lessF_rise hlr) (by have := lessF_len L m.data.toList; show (lessF L m.data.toList).length ≤ 1000; omega) hng hsp)
  have HL := Lib.hid hL; have HG := Lib.hid hg; have HM0 := Lib.hid h; have HWL := Lib.hid hwl
  clear h hr hlr hll hng hL hg hwl
  go_enter Try.func50, Try.ntmps50
  go_wp2_with fail
  refine CT.out.mono ?_
  rintro e w1 ⟨r, v1, R1, rfl, hM, hP, hsep, hb1, hsub1, hvb1, hfr1⟩
  rw [HG.out, Option.getD_some] at hP
  rw [← HL.out] at hM
  have HSEP := Lib.hid hsep
  have HT1 := Lib.hid (HM0.out.frame hfr1)
  have hB1 : B ≤ w1.heap.size := Nat.le_trans hB hb1.size
  obtain ⟨V, hV⟩ : ∃ V, V = w1.alloc (.cells #[.string r.n, .string r.d, .slice r.a r.z r.c] 47) := ⟨_, rfl⟩
  have hbV : Below w1.heap.size w1 V := by rw [hV]; exact (Below.refl _ _).alloc (Nat.le_refl _) _
  have hRb : Row V w1.heap.size #[.string r.n, .string r.d, .slice r.a r.z r.c] 47 := by rw [hV]; exact Row.made _ _ _
  have HV := Lib.hid hV
  have HMV := Lib.hid (hM.stays hbV); have HPV := Lib.hid (hP.stays hbV); have HBV := Lib.hid (hb1.trans (hbV.mono hB1)); have HRB := Lib.hid hRb
  have HNE : Hid (v1.ownBlock ≠ some w1.heap.size) := Lib.hid fun e => by have := (World.ownsRow.lt hM.own _ e).2; omega
  have HTV := Lib.hid (HT1.out.trans (KeepT.below hbV))
  have hBV : B ≤ V.heap.size := Nat.le_trans hB1 hbV.size
  clear hM hP hb1 hV hbV hRb hsep hsub1 hvb1 hfr1
  go_wp2_with fail
  rw [← HV.out]
  refine (CT2.out V v1 R1 HMV.out hBV).mono ?_
  rintro e w2 ⟨r2, v2, R2, rfl, hM2, _, _, hb2, hsub2, hvb2, hfr2⟩
  have hkb : w1.heap.size ≠ kb := fun e => by
    have h1 := HRB.out; have h2 := HMV.out.row
    rw [e] at h1
    unfold Row at h1 h2
    rw [h1] at h2; cases h2
  have HR2 : Hid (Row w2 w1.heap.size #[.string r.n, .string r.d, .slice r.a r.z r.c] 47) := Lib.hid (by
    unfold Row; rw [hfr2 _ HRB.out.lt hkb HNE.out]; exact HRB.out)
  have HP2 : Hid (RowP B w2 r f) := Lib.hid ⟨HPV.out.1, HPV.out.2.1, (by
    have ho := HPV.out.2.2
    rcases ho.2 with ⟨e0, e1⟩ | ⟨g, cap, cur, e0, e1, e2, e3⟩
    · exact ⟨ho.1, .inl ⟨e0, e1⟩⟩
    · refine ⟨ho.1, .inr ⟨g, cap, cur, e0, e1, ?_, e3⟩⟩
      have hgk : (Value.slice r.a r.z r.c).ownBlock = some g := by rw [e0]; rfl
      rw [hfr2 g (World.ownsRow.lt ho g hgk).2 (fun e => ho.apart HMV.out.row (by decide) (by rw [hgk, e])) (fun e => by
        obtain ⟨xs, hx⟩ := HMV.out.own.row e
        exact ho.apart hx (by decide) hgk)]
      exact e2)⟩
  have HM2 := Lib.hid hM2
  have HB2 := Lib.hid (HBV.out.trans hb2)
  have HT2 := Lib.hid (HTV.out.trans (HMV.out.frame hfr2))
  have HSE2 : Hid (∀ y ∈ R2, SepR r y) := Lib.hid fun y hy => HSEP.out y (hsub2 y hy)
  have HNE2 : Hid (v2.ownBlock ≠ some w1.heap.size) := Lib.hid (by rw [hvb2]; exact HNE.out)
  have hB2 : B ≤ w2.heap.size := Nat.le_trans hBV hb2.size
  clear hM2 hb2 hsub2 hvb2 hfr2 hkb
  go_wp2_with fail
  refine (CN.out _).mono ?_
  rintro e w3 ⟨rfl, hb3⟩
  have hR3 := HR2.out.step hb3
  have HM4 := Lib.hid ((HM2.out.stays hb3).box hR3 HNE2.out 0 (.string m))
  have HP4 := Lib.hid ((HP2.out.stays hb3).box hR3 0 (.string m))
  have HB4 := Lib.hid ((HB2.out.trans (hb3.mono hB2)).setCell (p := ⟨w1.heap.size, 0, none⟩) hB1 (.string m))
  have HT4 := Lib.hid ((HT2.out.trans (KeepT.below hb3)).trans (KeepT.set hR3 (.inr (.inl rfl)) 0 (.string m)))
  have hR4 := hR3.set 0 (.string m)
  obtain ⟨r0, r1, r2', fr⟩ := row_cells hR3
  have CP2 := Lib.hid (CP.out _ v2 R2 ⟨m, r.d, r.a, r.z, r.c⟩ HM4.out ⟨rfl, HP4.out.2.1, HP4.out.2.2⟩ (by have := hb3.size; simp [World.setCell]; omega) (fun y hy => HSE2.out y hy))
  clear hb3 hR3 hR4
  go_wp2_with fail
  refine CP2.out.mono ?_
  rintro e w5 ⟨v5, R5, rfl, hM5, hB5, hT5⟩
  go_wp2
  go_end0
  exact ⟨v5, R5, rfl, by rw [← HWL.out]; exact hM5, HB4.out.trans hB5, HT4.out.trans hT5⟩
def actD (d : Dsk) (wrong : Int) (fs : List Dfl) : Dsk × Int := if d.off = true then (d, 13) else if wrong ≠ 0 then (d, wrong) else thenD d fs
def ActR (B kb : Nat) (r : Dsk × Int) (w : World) (e : Ending) (w' : World) : Prop := ∃ v' R', e = .returned (.int .i64 r.2) ∧ Mch B kb w' v' R' r.1 ∧ Below B w w' ∧ KeepT w w'
def DoR (B kb : Nat) (fs : List Dfl) (off : Bool) (fuse : Int) (w : World) (e : Ending) (w' : World) : Prop := ∃ v' R', e = .returned (.tuple #[]) ∧ Mch B kb w' v' R' ⟨fs, off, fuse⟩ ∧ Below B w w' ∧ KeepT w w'
theorem Mch.setFuse {B kb : Nat} {w : World} {v : Value} {R : List Dfr} {d : Dsk} (h : Mch B kb w v R d) (f : Int) : Mch B kb (w.setCell ⟨kb, 2, none⟩ (.int .i64 f)) v R ⟨d.fs, d.off, f⟩ :=
  h.turnRow (xs := #[]) 2 _ (by have := h.row.set 2 (.int .i64 f); exact this)
set_option maxRecDepth 100000 in
set_option maxHeartbeats 4000000 in
theorem act_any (B kb : Nat) (v : Value) (R : List Dfr) (d : Dsk) (wrong : Int) (fk : FuncId) (cap : Array Value) (fs : List Dfl) (hE : Enters Try.prog fk) (w : World) (h : Mch B kb w v R d) (hB : B ≤ w.heap.size) (h1 : -1 ≤ d.fuse) (h2 : d.fuse ≤ 1048576)
    (hd : wrong = 0 → d.off = false → ∀ W f, KeepT w W → B ≤ W.heap.size → Mch B kb W v R ⟨d.fs, false, f⟩ → Calls Try.prog fk cap W (DoR B kb fs false f W)) :
    Calls Try.prog 36 #[.pointer (some ⟨kb, 0, none⟩), .int .i64 wrong, .func (.func fk) #[] cap] w (ActR B kb (actD d wrong fs) w) := by
  have HM := Lib.hid h
  obtain ⟨m0, m1, m2, fm⟩ := h.cell
  unfold Enters at hE
  obtain ⟨fl, off, fuse⟩ := d
  dsimp only at h1 h2 hd m1 m2 HM ⊢
  cases off with
  | true =>
    have HR : Hid (actD ⟨fl, true, fuse⟩ wrong fs = (⟨fl, true, fuse⟩, 13)) := Lib.hid (if_pos rfl)
    clear hd h
    go_enter Try.func36, Try.ntmps36
    go_wp2
    go_ret
    exact ⟨v, R, by rw [HR.out]; rfl, by rw [HR.out]; exact HM.out, Below.refl _ _, fun _ _ _ _ _ _ h => h⟩
  | false =>
    by_cases hw : wrong = 0
    · have HD := Lib.hid (hd hw rfl)
      have HR : Hid (actD ⟨fl, false, fuse⟩ wrong fs = thenD ⟨fl, false, fuse⟩ fs) := Lib.hid (by unfold actD; rw [if_neg (by simp), if_neg (by simpa using hw)])
      subst hw
      clear hd
      by_cases h0 : fuse = 0
      · have HP : Hid (thenD ⟨fl, false, fuse⟩ fs = (⟨fl, true, -1⟩, 13)) := Lib.hid (by
          have hp : powD ⟨fl, false, fuse⟩ = (⟨fl, true, -1⟩, 13) := if_pos h0
          rw [thenD_bad (by rw [hp]; show (13 : Int) ≠ 0; decide), hp])
        subst h0
        have hrow : Row ((w.setCell ⟨kb, 1, none⟩ (.bool true)).setCell ⟨kb, 2, none⟩ (.int .i64 (-1))) kb #[v, .bool true, .int .i64 (-1)] 57 := by
          have := (h.row.set 1 (.bool true)).set 2 (.int .i64 (-1)); exact this
        have hM1 : Mch B kb (w.setCell ⟨kb, 1, none⟩ (.bool true)) v R ⟨fl, true, 0⟩ := h.turnRow (xs := #[]) 1 _ (by have := h.row.set 1 (.bool true); exact this)
        have HM2 := Lib.hid (hM1.setFuse (-1))
        have HT2 := Lib.hid ((KeepT.set h.row (.inl rfl) 1 (.bool true)).trans (KeepT.set hM1.row (.inl rfl) 2 (.int .i64 (-1))))
        have HB2 := Lib.hid (((Below.refl B w).setCell (p := ⟨kb, 1, none⟩) h.from_ (.bool true)).setCell (p := ⟨kb, 2, none⟩) h.from_ (.int .i64 (-1)))
        clear hrow hM1 h
        go_enter Try.func36, Try.ntmps36
        go_wp2
        go_ret
        exact ⟨v, R, by rw [HR.out, HP.out]; rfl, by rw [HR.out, HP.out]; exact HM2.out, HB2.out, HT2.out⟩
      · have e0 : (fuse == 0) = false := by simpa using h0
        by_cases h3 : 0 < fuse
        · have e3 : decide (0 < fuse) = true := decide_eq_true h3
          have HP : Hid (thenD ⟨fl, false, fuse⟩ fs = (⟨fs, false, fuse - 1⟩, 0)) := Lib.hid (by
            have hp : powD ⟨fl, false, fuse⟩ = (⟨fl, false, fuse - 1⟩, 0) := by unfold powD; rw [if_neg h0, if_pos h3]
            rw [thenD_ok (by rw [hp]), hp])
          have hsub : IntKind.i64.wrap (fuse - 1) = fuse - 1 := IntWalk.i64_in _ (by omega)
          have HT2 := Lib.hid (KeepT.set h.row (.inl rfl) 2 (.int .i64 (fuse - 1)))
          have HB2 := Lib.hid ((Below.refl B w).setCell (p := ⟨kb, 2, none⟩) h.from_ (.int .i64 (fuse - 1)))
          have C := Lib.hid (HD.out _ (fuse - 1) HT2.out (by simp [World.setCell]; exact hB) (h.setFuse (fuse - 1)))
          clear h h0 h3
          go_enter Try.func36, Try.ntmps36
          go_wp2_with fail
          refine C.out.mono ?_
          rintro e w2 ⟨v2, R2, rfl, hM2, hB2, hT2⟩
          go_wp2
          go_ret
          exact ⟨v2, R2, by rw [HR.out, HP.out]; rfl, by rw [HR.out, HP.out]; exact hM2, HB2.out.trans hB2, HT2.out.trans hT2⟩
        · have e3 : decide (0 < fuse) = false := decide_eq_false h3
          have HP : Hid (thenD ⟨fl, false, fuse⟩ fs = (⟨fs, false, fuse⟩, 0)) := Lib.hid (by
            have hp : powD ⟨fl, false, fuse⟩ = (⟨fl, false, fuse⟩, 0) := by unfold powD; rw [if_neg h0, if_neg h3]
            rw [thenD_ok (by rw [hp]), hp])
          have C := Lib.hid (HD.out w fuse (fun _ _ _ _ _ _ h => h) hB h)
          clear h h0 h3
          go_enter Try.func36, Try.ntmps36
          go_wp2_with fail
          refine C.out.mono ?_
          rintro e w2 ⟨v2, R2, rfl, hM2, hB2, hT2⟩
          go_wp2
          go_ret
          exact ⟨v2, R2, by rw [HR.out, HP.out]; rfl, by rw [HR.out, HP.out]; exact hM2, hB2, hT2⟩
    · have HR : Hid (actD ⟨fl, false, fuse⟩ wrong fs = (⟨fl, false, fuse⟩, wrong)) := Lib.hid (by unfold actD; rw [if_neg (by simp), if_pos hw])
      have e0 : (wrong == 0) = false := by simpa using hw
      clear hd h
      go_enter Try.func36, Try.ntmps36
      go_wp2
      go_ret
      exact ⟨v, R, by rw [HR.out]; rfl, by rw [HR.out]; exact HM.out, Below.refl _ _, fun _ _ _ _ _ _ h => h⟩
set_option maxRecDepth 100000 in
set_option maxHeartbeats 4000000 in
theorem pRead_any (d : Dsk) (v : Value) (s : ByteArray) (w : World) (h : IsDfs w v d.fs) (hr : d.fs.Pairwise fun x y => x.t < y.t) (hl : d.fs.length ≤ 1000) (hf : ∀ f ∈ d.fs, f.d.size ≤ 262144 ∧ ∀ o ∈ f.ops, opOk o) :
    Calls Try.prog 15 #[dskV v d, .string s] w fun e w' => e = .returned (.tuple #[.string (strT (readD d s.data.toList).1), .bool (readD d s.data.toList).2]) ∧ Below w.heap.size w w' := by
  obtain ⟨_, a, cap, hu, _, _⟩ := id h
  obtain ⟨z, hz⟩ : ∃ z, z = d.fs.length := ⟨_, rfl⟩
  rw [← hz] at hu hl
  have HZ := Lib.hid hz
  subst hu
  obtain ⟨V, hV⟩ : ∃ V, V = (w.alloc (.cells #[.slice a z cap, .bool d.off, .int .i64 d.fuse] 24)).alloc (.cells #[.slice a z cap, .bool d.off, .int .i64 d.fuse] 57) := ⟨_, rfl⟩
  have hbV : Below w.heap.size w V := by rw [hV]; exact ((Below.refl _ _).alloc (Nat.le_refl _) _).alloc (by simp) _
  have hR : Row V w.heap.size #[.slice a z cap, .bool d.off, .int .i64 d.fuse] 24 := by rw [hV]; exact (Row.made _ _ _).alloc _
  have hR2 : Row V (w.heap.size + 1) #[.slice a z cap, .bool d.off, .int .i64 d.fuse] 57 := by
    rw [hV]; have := Row.made (w.alloc (.cells #[.slice a z cap, .bool d.off, .int .i64 d.fuse] 24)) #[.slice a z cap, .bool d.off, .int .i64 d.fuse] 57; simpa using this
  have HV := Lib.hid hV; have HBV := Lib.hid hbV
  have hI := h.stays hbV
  obtain ⟨R, hRw, hS⟩ := hI.rws
  have CP := Lib.hid (place_any_Dlh (B := 0) (kb := w.heap.size + 1) s V hRw (by have p := hR2.cell 0; simpa using p) (hS.names fun r x h => h.1) hr (by rw [hS.len]; omega))
  have HAT := Lib.hid (getF_cnt hr s.data.toList)
  have HI := Lib.hid hI; have HF := Lib.hid hf
  obtain ⟨k, hk⟩ : ∃ k, k = cntF d.fs s.data.toList := ⟨_, rfl⟩
  have HK := Lib.hid hk
  have HRB := Lib.hid hR
  rw [← hk] at CP
  have p0 := hR.cell 0; have p1 := hR.cell 1; have p2 := hR.cell 2
  simp only [List.getElem?_toArray, List.getElem?_cons_zero, List.getElem?_cons_succ] at p0 p1 p2
  have hzz : z ≤ 9223372036854775807 := by omega
  clear hV hbV hR hR2 hI hk hRw hS h hz hf
  unfold dskV
  cases hg : getF d.fs s.data.toList with
  | none =>
    have HRD := Lib.hid (readD_none hg)
    rw [hg] at CP
    clear hg
    go_enter Try.func15, Try.ntmps15
    go_wp2_with fail
    rw [← HV.out]
    refine CP.out.mono ?_
    rintro e w2 ⟨rfl, hb2⟩
    go_wp2
    exact bodyPost_ret (v := .tuple #[.string ⟨#[]⟩, .bool false]) (by simp [results, Try.results15, go_sem]) rfl ⟨by rw [HRD.out]; rfl, below_step HBV.out hb2⟩
  | some f =>
    have HRD := Lib.hid (readD_some hg)
    obtain ⟨hkl, hkf⟩ : ∃ h : k < d.fs.length, d.fs[k] = f := by
      rcases HAT.out with ⟨h1, h2, h3⟩ | ⟨h1, _⟩
      · rw [← HK.out] at h1
        refine ⟨h1, ?_⟩
        simp only [HK.out]
        rw [hg] at h3
        exact (Option.some.inj h3).symm
      · rw [hg] at h1; cases h1
    rw [hg] at CP
    have hkz : k < z := by have := HZ.out; omega
    clear hg HAT
    go_enter Try.func15, Try.ntmps15
    go_wp2_with fail
    rw [← HV.out]
    refine CP.out.mono ?_
    rintro e w2 ⟨rfl, hb2⟩
    have HB2 := Lib.hid (below_step HBV.out hb2)
    obtain ⟨_, _, _, hev, _, hc⟩ := HI.out.stays hb2
    rw [← HZ.out] at hev
    cases hev
    obtain ⟨b1, o1, rfl, hbl, g1⟩ := hc (by omega)
    obtain ⟨u, c0, c1, c2, hu⟩ := g1 k hkl
    rw [hkf] at c0 c1 hu
    have hff := HF.out f (by rw [← hkf]; exact List.getElem_mem hkl)
    have CS := Lib.hid (seen_any f u w2 hu hff.1 hff.2)
    have hR3 := HRB.out.step hb2
    clear p0 p1 p2
    have p0 := hR3.cell 0
    simp only [List.getElem?_toArray, List.getElem?_cons_zero] at p0
    have hbk : decide ((k : Int) < (z : Int)) = true := decide_eq_true (by omega)
    clear g1 hc hu hff hR3 hb2 hkf
    go_wp2_with fail
    refine CS.out.mono ?_
    rintro e w3 ⟨rfl, hb3⟩
    go_wp2
    exact bodyPost_ret (v := .tuple #[.string (strT (seenF f)), .bool true]) (by simp [results, Try.results15, go_sem]) rfl ⟨by rw [HRD.out], below_step HB2.out hb3⟩
end Go.Proofs.Ytninfmlemdnjbaa

/-
  Texts put together: contracts and laws that this seat's proofs share.
-/
import Derived.Test.YtokknppjeckppaaGreatDoorQa5
import Derived.OwnWalk
import Derived.Test.YtokknppjeckppaaGreatDoorQa3
import Derived.Test.YtokknppjeckppaaGreatDoorQa1
import Derived.Test.YtokknppjeckppaaGreatDoorQa2
import Derived.Lib.QuietBelow
import Derived.Test.YtokknppjeckppaaGreatDoorQa4
set_option linter.unusedVariables false
namespace Go.Proofs.YtokknppjeckppaaGreatDoor
open Go Go.RowKit
attribute [local go_sem] Oper.semAt_some
theorem infoIntU : (Tryz.prog.info? 3).map (fun i => (i.zero, i.size, i.bytes)) = some (some (.int .i64 0), 1, 8) := by kernel_rfl
def nRow (A : List Txt) (f : Txt → Nat) : Array Value := (A.map fun t => Value.int .i64 (f t : Nat)).toArray
theorem nRow_get {A : List Txt} {f : Txt → Nat} {i : Nat} (h : i < A.length) : (nRow A f)[i]? = some (.int .i64 (f A[i] : Nat)) := by unfold nRow; simp [h]
theorem nRow_set {A : List Txt} (hA : A.Nodup) {f : Txt → Nat} {i : Nat} (h : i < A.length) (n : Nat) : (nRow A f).setIfInBounds i (.int .i64 (n : Nat)) = nRow A (putF f A[i] n) := by
 unfold nRow
 rw [List.setIfInBounds_toArray]
 congr 1
 apply List.ext_getElem?
 intro j
 rw [List.getElem?_set]
 by_cases hj : i = j
 ·subst hj
  rw [if_pos rfl]
  simp [h, putF_same]
 ·rw [if_neg hj]
  by_cases hl : j < A.length
  ·have hne : A[j] ≠ A[i] := fun e => hj ((List.getElem_inj hA).1 e).symm
   simp [hl, putF_other _ hne]
  ·simp [hl]
theorem nRow_zero (A : List Txt) : nRow A (fun _ => 0) = (List.replicate A.length (Value.int .i64 0)).toArray := by
 unfold nRow
 congr 1
 apply List.ext_getElem?
 intro j
 by_cases hl : j < A.length <;> simp [hl]
def OneCt (w : World) (v : Value) (x : Ct) : Prop := ∃ A, v = .slice (some ⟨A, 0, none⟩) 1 1 ∧ w.heap[A]? = some (.cells #[.string x.k, .int .i64 x.n] 58 (0, 0))
theorem OneCt.stays {w w' : World} {v : Value} {x : Ct} (h : OneCt w v x) (hb : Below w.heap.size w w') : OneCt w' v x := by
 obtain ⟨A, h1, h2⟩ := h
 exact ⟨A, h1, (hb.block A (Array.getElem?_eq_some_iff.1 h2).1).trans h2⟩
theorem oneCt_new (w : World) (x : Ct) : OneCt (w.alloc (.cells #[.string x.k, .int .i64 x.n] 58)) (.slice (some ⟨w.heap.size, 0, none⟩) 1 1) x := ⟨_, rfl, heap_alloc_new w _⟩
theorem wp_build_ct {o : Oper} {a : Act} {K : Act → World → Prop} {Q : Exit → Act → World → Prop} {w : World} (p : Nat) (ho : o.op = .buildSlice 26 1 #[(0, .tmp p)]) {x : Ct}
  (hx : slot a p = .agg #[.string x.k, .int .i64 x.n]) (hk : K (a.put o.dst (.slice (some ⟨w.heap.size, 0, none⟩) 1 1)) (w.alloc (.cells #[.string x.k, .int .i64 x.n] 58))) : o.wp Tryz.prog a w K Q := by
 refine wp_value (v := .slice (some ⟨w.heap.size, 0, none⟩) 1 1) (w' := w.alloc (.cells #[.string x.k, .int .i64 x.n] 58)) ?_ hk
 have f := slot_at hx
 unfold execOp
 rw [ho]
 go_simp
theorem wp_append_one_ct {o : Oper} {a : Act} {B : Nat} {w : World} {K : Act → World → Prop} {Q : Exit → Act → World → Prop} (s x : Nat)
  (ho : o.op = .call { callee := .builtin .append, args := #[.tmp s, .tmp x], argTypes := #[26, 26] })
  {v : Value} {M : List Ct} {y : Ct} (hown : OwnC B w v M) (hBs : B ≤ w.heap.size) (hs : a.eval (.tmp s) = v) (hx : OneCt w (slot a x) y) (hlen : M.length ≤ 1000000)
  (h : ∀ v' w', OwnC B w' v' (M ++ [y]) → w.grownBy w' v.ownBlock → K (a.put o.dst v') w') : o.wp Tryz.prog a w K Q := by
 obtain ⟨i0, hi, hz0, hz1, hz2⟩ := info_parts infoCount
 obtain ⟨A, hx1, hx2⟩ := hx
 have hr : Row w A #[.string y.k, .int .i64 y.n] 58 := hx2
 refine wp_append_own w (.tmp s) (.tmp x) 26 ho B 58 i0 (ctV zeroCt) 2 24 Tryz.underlying26 hi hz0 hz1 hz2 rfl (by decide) v M.length (ctCells M) hs hown ⟨A, 0, none⟩ 1 1 (ctC y) (slotE hx1) rfl ?_ ?_ ?_ ?_ hBs ?_
 ·intro j u hj
  have := hr.cell j
  rw [add_plain', Nat.zero_add, this]
  simpa using hj
 ·intro u hu; simp at hu; rcases hu with rfl | rfl <;> rfl
 ·unfold maxLen; omega
 ·omega
 ·intro v' w' hown' hg _
  refine h v' w' ?_ hg
  unfold OwnC
  rw [List.length_append, ctCells_app]
  have : ctCells [y] = ctC y := List.append_nil _
  rw [this]; exact hown'
def N1 (R A : List Txt) (k : Nat) (f : Txt → Nat) : Prop := (∀ t ∈ A.take k, f t = R.count t) ∧ ∀ t ∈ A.drop k, f t = 0
def N2 (R A : List Txt) (k : Nat) (t : Txt) (q : Nat) (f : Txt → Nat) : Prop := (∀ s ∈ A.take k, f s = R.count s) ∧ f t = (R.take q).count t ∧ ∀ s ∈ A.drop (k + 1), f s = 0
def N3 (O : List Ob) (R A : List Txt) (k : Nat) (f : Txt → Nat) : Prop := ∀ t ∈ A, f t = R.count t + nmO O (A.take k) t
def N4 (O : List Ob) (R A : List Txt) (k : Nat) (t : Txt) (q : Nat) (f : Txt → Nat) : Prop := ∀ s ∈ A, f s = R.count s + nmO O (A.take k) s + (if s ∈ A.take q ∧ s ∈ kidsO O t then 1 else 0)
section
variable {O : List Ob} {R A : List Txt} {k q : Nat} {f : Txt → Nat} {t : Txt}
theorem n1_zero (R A : List Txt) : N1 R A 0 (fun _ => 0) := ⟨fun t h => by simp at h, fun _ _ => rfl⟩
theorem n2_zero (h : N1 R A k f) (hk : k < A.length) : N2 R A k A[k] 0 f :=
 ⟨h.1, by rw [h.2 A[k] (by rw [List.drop_eq_getElem_cons hk]; exact List.mem_cons_self ..)]; simp, fun s hs => h.2 s (by rw [List.drop_eq_getElem_cons hk]; exact List.mem_cons_of_mem _ hs)⟩
theorem nodup_parts (hA : A.Nodup) (hk : k < A.length) : (∀ s ∈ A.take k, s ≠ A[k]) ∧ ∀ s ∈ A.drop (k + 1), s ≠ A[k] := by
 have h := hA
 rw [← List.take_append_drop k A, List.nodup_append, List.drop_eq_getElem_cons hk] at h
 obtain ⟨_, h2, h3⟩ := h
 exact ⟨fun s hs => h3 s hs A[k] (List.mem_cons_self ..), fun s hs e => (List.nodup_cons.1 h2).1 (by rw [← e]; exact hs)⟩
theorem n2_hit (hA : A.Nodup) (hk : k < A.length) (h : N2 R A k A[k] q f) (hq : q < R.length) (he : R[q] = A[k]) : N2 R A k A[k] (q + 1) (putF f A[k] (f A[k] + 1)) := by
 obtain ⟨p1, p2⟩ := nodup_parts hA hk
 refine ⟨fun s hs => by rw [putF_other _ (p1 s hs)]; exact h.1 s hs, ?_, fun s hs => by rw [putF_other _ (p2 s hs)]; exact h.2.2 s hs⟩
 rw [putF_same, h.2.1, take_count_succ hq]
 unfold oneK
 rw [if_pos he.symm]
theorem n2_miss (h : N2 R A k t q f) (hq : q < R.length) (he : R[q] ≠ t) : N2 R A k t (q + 1) f := by
 refine ⟨h.1, ?_, h.2.2⟩
 rw [h.2.1, take_count_succ hq]
 unfold oneK
 rw [if_neg (fun e => he e.symm)]; omega
theorem n2_done (hk : k < A.length) (h : N2 R A k A[k] q f) (hq : R.length ≤ q) : N1 R A (k + 1) f := by
 refine ⟨fun s hs => ?_, h.2.2⟩
 rcases take_one hk hs with hs | rfl
 ·exact h.1 s hs
 ·rw [h.2.1, List.take_of_length_le hq]
theorem n3_zero (h : N1 R A k f) (hk : A.length ≤ k) : N3 O R A 0 f := fun t ht => by
 rw [h.1 t (by rw [List.take_of_length_le hk]; exact ht)]
 simp [nmO]
theorem n4_zero (h : N3 O R A k f) (t : Txt) : N4 O R A k t 0 f := fun s hs => by
 rw [h s hs, if_neg (by simp)]; rfl
theorem n4_hit (hA : A.Nodup) (h : N4 O R A k t q f) (hq : q < A.length) (he : A[q] ∈ kidsO O t) : N4 O R A k t (q + 1) (putF f A[q] (f A[q] + 1)) := fun s hs => by
 obtain ⟨p1, _⟩ := nodup_parts hA hq
 by_cases e : s = A[q]
 ·subst e
  rw [putF_same, h _ hs, if_neg (fun hm => p1 _ hm.1 rfl), if_pos ⟨by rw [List.take_succ_eq_append_getElem hq]; exact List.mem_append_right _ (List.mem_singleton.2 rfl), he⟩]
 ·rw [putF_other _ e, h s hs]
  congr 1
  have : s ∈ A.take (q + 1) ↔ s ∈ A.take q := by
   rw [List.take_succ_eq_append_getElem hq, List.mem_append, List.mem_singleton]
   exact ⟨fun h => h.resolve_right e, .inl⟩
  simp only [this]
theorem n4_miss (h : N4 O R A k t q f) (hq : q < A.length) (he : A[q] ∉ kidsO O t) : N4 O R A k t (q + 1) f := fun s hs => by
 rw [h s hs]
 congr 1
 have : (s ∈ A.take (q + 1) ∧ s ∈ kidsO O t) ↔ (s ∈ A.take q ∧ s ∈ kidsO O t) := by
  rw [List.take_succ_eq_append_getElem hq, List.mem_append, List.mem_singleton]
  constructor
  ·rintro ⟨h1 | h1, h2⟩
   ·exact ⟨h1, h2⟩
   ·subst h1; exact absurd h2 he
  ·rintro ⟨h1, h2⟩; exact ⟨.inl h1, h2⟩
 simp only [this]
theorem nm_snoc (O : List Ob) (B : List Txt) (j s : Txt) : nmO O (B ++ [j]) s = nmO O B s + (if s ∈ kidsO O j then 1 else 0) := by
 unfold nmO
 rw [List.countP_append, List.countP_singleton]
 by_cases h : s ∈ kidsO O j <;> simp [h]
theorem n4_done (hk : k < A.length) (h : N4 O R A k A[k] q f) (hq : A.length ≤ q) : N3 O R A (k + 1) f := fun s hs => by
 rw [h s hs, List.take_succ_eq_append_getElem hk, nm_snoc, List.take_of_length_le hq]
 by_cases e : s ∈ kidsO O A[k]
 ·rw [if_pos ⟨hs, e⟩, if_pos e]; omega
 ·rw [if_neg (fun h => e h.2), if_neg e]; omega
theorem n2_le (h : N2 R A k t q f) : f t ≤ R.length := by
 rw [h.2.1]; exact Nat.le_trans List.count_le_length (by rw [List.length_take]; omega)
theorem n4_le (h : N4 O R A k t q f) {s : Txt} (hs : s ∈ A) : f s ≤ R.length + A.length + 1 := by
 rw [h s hs]
 have h1 : R.count s ≤ R.length := List.count_le_length
 have h2 : nmO O (A.take k) s ≤ A.length := by
  unfold nmO; exact Nat.le_trans List.countP_le_length (by rw [List.length_take]; omega)
 split <;> omega
theorem listC_counts (hA : AllR O R A) (hr : Rises A) (h : N3 O R A A.length f) : CountsOf O R (listC f A) := by
 have hf : ∀ t ∈ A, f t = ofF O (keysR R) A t := fun t ht => by
  have h32 := reach_len ((hA.2 t).1 ht)
  rw [h t ht, List.take_length]
  unfold ofF
  rw [keysR_count, if_pos h32]
 have hAk := allR_keys.2 hA
 refine ⟨listC_fit hr fun t ht => ?_, A, hA, fun t => ?_⟩
 ·have := (of_pos hAk (reach_len ((hA.2 t).1 ht))).2 (reach_keys.2 ((hA.2 t).1 ht))
  rw [hf t ht]; omega
 ·rw [listC_n]
  by_cases ht : t ∈ A
  ·rw [if_pos ht, hf t ht]
  ·rw [if_neg ht]
   have h0 : (keysR R).count t = 0 := List.count_eq_zero.2 fun hm => ht ((hA.2 t).2 (.start (keysR_mem.1 hm).1 (keysR_mem.1 hm).2))
   have h1 : nmO O A t = 0 := Nat.eq_zero_of_not_pos fun hp => by
    obtain ⟨j, hj, hk⟩ := nm_pos.1 hp
    exact ht ((hA.2 t).2 (.kid ((hA.2 j).1 hj) hk))
   unfold ofF
   rw [h0, h1]; rfl
theorem listC_snoc {j : Nat} (h : j < A.length) : listC f (A.take (j + 1)) = listC f (A.take j) ++ [⟨⟨A[j].toArray⟩, (f A[j] : Nat)⟩] := by
 unfold listC
 rw [List.take_succ_eq_append_getElem h, List.map_append]; rfl
end
theorem make_row {w' : World} {b B n : Nat} {A : List Txt} (hn : n = A.length) (h : w'.ownsRow b 3 1 (.slice (some ⟨B, 0, none⟩) n n) n (madeCells #[Value.int .i64 0] n).toList) : Row w' B (nRow A (fun _ => 0)) 3 := by
 obtain ⟨hl, h1 | ⟨g, cap, cur, hv, _, hg, _, _, hsz, htk⟩⟩ := h
 ·cases h1.1
 ·cases hv
  have hc : cur.toList = List.replicate n (Value.int .i64 0) := by
   rw [toList_madeCells_one] at htk
   rw [← htk, List.take_of_length_le (by rw [Array.length_toList, hsz]; omega)]
  have hc2 : cur = nRow A (fun _ => 0) := by
   rw [nRow_zero, ← hn, ← hc]
  rw [hc2] at hg
  exact hg
def cofU (W5 : World) (ba B i offa ca n z : Nat) (vB : Value) (M : List Ct) (x : ByteArray) : Nat → Value → Value → World → Prop
 | 0 => fun v _ _ => v = vB
 | 1 => fun v _ _ => v = .slice (some ⟨ba, offa, none⟩) z ca
 | 2 => fun v _ _ => v = .int .i64 (i : Nat)
 | 3 => fun v _ _ => v = .pointer (some ⟨ba, offa + i, none⟩)
 | 4 => fun v _ _ => v = .string x
 | 5 => fun v _ _ => v = .slice (some ⟨B, 0, none⟩) z z
 | 6 => fun v _ _ => v = .int .i64 (i : Nat)
 | 7 => fun v _ _ => v = .pointer (some ⟨B, i, none⟩)
 | 8 => fun v _ _ => v = .int .i64 (n : Nat)
 | 9 => fun v _ _ => v = .agg #[.string x, .int .i64 (n : Nat)]
 | 10 => fun v _ w => OneCt w v (⟨x, (n : Nat)⟩ : Ct)
 | 11 => fun v _ w => OwnC W5.heap.size w v (M ++ [(⟨x, (n : Nat)⟩ : Ct)])
 | 12 => fun v _ w => OwnC W5.heap.size w v (M ++ [(⟨x, (n : Nat)⟩ : Ct)])
 | 13 => fun _ _ w => ba < w.heap.size ∧ w.cell? ⟨ba, offa + i, none⟩ = some (.string x)
 | 14 => fun _ _ w => B < w.heap.size ∧ w.cell? ⟨B, i, none⟩ = some (.int .i64 (n : Nat))
 | 15 => fun _ _ w => OwnC W5.heap.size w vB M
 | _ => fun _ _ _ => True
def cofN : List (List Nat) := [[], [], [], [1, 2], [3, 13], [], [], [5, 6], [7, 14], [4, 8], [9], [0, 10, 15], [11]]
def cofE : Nat → Option Tmp
 | _ => none
def cofB : List (Nat × Nat) := [(11, 10), (11, 12), (11, 13), (11, 14), (11, 15)]
theorem cof_T (W5 : World) (ba B i offa ca n z : Nat) (vB : Value) (M : List Ct) (x : ByteArray) (ix kx : Nat) (v e : Value) (w w' : World) (hk : kx < 16) (hne : kx ≠ ix) (hbd : (ix, kx) ∉ cofB) (hU : (cofU W5 ba B i offa ca n z vB M x) kx v e w) (hT : (appT 11 (fun w w' => w.grownBy w' vB.ownBlock)) ix w w') : (cofU W5 ba B i offa ca n z vB M x) kx v e w' := by
 by_cases hi11 : ix = 11
 ·subst hi11
  have hR := appT_in hT
  rcases (show kx = 0 ∨ kx = 1 ∨ kx = 2 ∨ kx = 3 ∨ kx = 4 ∨ kx = 5 ∨ kx = 6 ∨ kx = 7 ∨ kx = 8 ∨ kx = 9 ∨ kx = 10 ∨ kx = 11 ∨ kx = 12 ∨ kx = 13 ∨ kx = 14 ∨ kx = 15 by omega) with rfl | rfl | rfl | rfl | rfl | rfl | rfl | rfl | rfl | rfl | rfl | rfl | rfl | rfl | rfl | rfl
  iterate 10 exact hU
  ·exact absurd (by decide) hbd
  ·exact absurd rfl hne
  ·exact absurd (by decide) hbd
  ·exact absurd (by decide) hbd
  ·exact absurd (by decide) hbd
  ·exact absurd (by decide) hbd
 have hb : Below w.heap.size w w' := appT_out hi11 hT
 rcases (show kx = 0 ∨ kx = 1 ∨ kx = 2 ∨ kx = 3 ∨ kx = 4 ∨ kx = 5 ∨ kx = 6 ∨ kx = 7 ∨ kx = 8 ∨ kx = 9 ∨ kx = 10 ∨ kx = 11 ∨ kx = 12 ∨ kx = 13 ∨ kx = 14 ∨ kx = 15 by omega) with rfl | rfl | rfl | rfl | rfl | rfl | rfl | rfl | rfl | rfl | rfl | rfl | rfl | rfl | rfl | rfl
 iterate 10 exact hU
 ·exact OneCt.stays hU hb
 ·exact OwnC.stays hU hb
 ·exact OwnC.stays hU hb
 ·exact ⟨Nat.lt_of_lt_of_le hU.1 hb.size, (hb.cell (p := ⟨ba, offa + i, none⟩) hU.1).trans hU.2⟩
 ·exact ⟨Nat.lt_of_lt_of_le hU.1 hb.size, (hb.cell (p := ⟨B, i, none⟩) hU.1).trans hU.2⟩
 ·exact OwnC.stays hU hb
structure OfW (w1 : World) (B : Nat) (A : List Txt) (f : Txt → Nat) (wr : World) : Prop where
 row : Row wr B (nRow A f) 3
 below : Below w1.heap.size w1 wr
 fr : w1.heap.size ≤ B
theorem OfW.stays {w1 wr wr' : World} {B : Nat} {A : List Txt} {f : Txt → Nat} (h : OfW w1 B A f wr) (hb : Below wr.heap.size wr wr') : OfW w1 B A f wr' := ⟨h.row.step hb, below_step h.below hb, h.fr⟩
theorem OfW.put {w1 wr : World} {B : Nat} {A : List Txt} {f : Txt → Nat} (h : OfW w1 B A f wr) (hA : A.Nodup) {i : Nat} (hi : i < A.length) (n : Nat) : OfW w1 B A (putF f A[i] n) (wr.setCell ⟨B, i, none⟩ (.int .i64 (n : Nat))) :=
 ⟨by rw [← nRow_set hA hi]; exact h.row.set i _, h.below.setCell (p := ⟨B, i, none⟩) h.fr _, h.fr⟩
set_option maxRecDepth 100000 in
set_option maxHeartbeats 32000000 in
theorem rOf_any (vO fv : Value) (O : List Ob) (F : List ByteArray) (w : World) (h : IsObs w vO O) (hr : RiseO O) (hz : ∀ y ∈ O, y.r.size ≤ 1000000) (hf : IsStrs w fv F) (hF : F.length ≤ 700000)
  (U : List Txt) (hU : ∀ t, ReachO O (txts F) t → t ∈ U) (hUl : U.length ≤ 700000) :
  Calls Tryz.prog 11 #[vO, fv] w (RetOf O (txts F) w) := by
 have CR := Lib.hid (rReach_any vO fv O F w h hr hz hf hF U hU hUl)
 have HI := Lib.hid h; have HR := Lib.hid hr; have HZ := Lib.hid hz; have HFS := Lib.hid hf; have HU := Lib.hid hU
 obtain ⟨_, ao, co, hvo, _, _⟩ := h
 obtain ⟨_, af, cf, hvf, _, _⟩ := hf
 obtain ⟨zo, hzo⟩ : ∃ z, z = O.length := ⟨_, rfl⟩
 obtain ⟨zf, hzf⟩ : ∃ z, z = F.length := ⟨_, rfl⟩
 rw [← hzo] at hvo; rw [← hzf] at hvf hF
 have HZF := Lib.hid hzf
 subst hvo hvf
 obtain ⟨zu, hzu⟩ : ∃ z, z = U.length := ⟨_, rfl⟩
 rw [← hzu] at hUl
 have HZU := Lib.hid hzu
 clear hr hz hU hzo hzf hzu
 go_enter Tryz.func11, Tryz.ntmps11
 go_wp2_with fail
 refine CR.out.mono ?_
 rintro e w1 ⟨va, A, cb, rfl, hoA, hAr, hAm, hAc, hb1⟩
 have HB1 := Lib.hid hb1; have HA := Lib.hid hoA
 have hAN := rises_nodup hAr
 have HAN := Lib.hid hAN; have HAR := Lib.hid hAr
 have HALL : Hid (AllR O (txts F) A) := Lib.hid ⟨hAN, hAm⟩
 have hAU : A.length ≤ zu := by rw [HZU.out]; exact nodup_len hAN fun t ht => HU.out t ((hAm t).1 ht)
 obtain ⟨_, aa, ca, hva, _, _⟩ := hoA.strs
 rw [strsOf_len] at hva
 obtain ⟨z, hzz⟩ : ∃ z, z = A.length := ⟨_, rfl⟩
 rw [← hzz] at hva hAU
 have HZ1 := Lib.hid hzz
 subst hva
 have HAC := Lib.hid hAc
 clear hoA hAr hAm hAc hb1 hAN hzz
 cases cb with
 | false =>
  go_wp2
  go_ret2
  exact ⟨_, [], false, rfl, cts_own_nil _ _, HAC.out, fun _ => rfl, (fun h => (by cases h)), HB1.out⟩
 | true =>
  obtain ⟨i0, hi, hz0, hz1, hz2⟩ := info_parts infoIntU
  have hzm : z ≤ maxLen := by unfold maxLen; omega
  have hzb : i0.bytes * z ≤ 281474976710656 := by rw [hz2]; omega
  have HZM := Lib.hid hzm; have HZB := Lib.hid hzb
  clear hzm hzb
  go_wp2_with (refine wpList_make_full _ rfl _ _ _ rfl w1.heap.size 3 i0 (.int .i64 0) 1 Tryz.underlying74 hi hz0 hz1 .i64 .i64 (z : Int) (z : Int) z rfl rfl rfl rfl HZB.out HZM.out (Nat.le_refl _) ?_)
  intro w2 ho2 hg2
  have hb2 : Below w1.heap.size w1 w2 := (Below.refl _ _).grown hg2 (Nat.le_refl _) (fun j hj => by cases hj)
  obtain ⟨B, hB⟩ : ∃ B, B = w1.heap.size := ⟨_, rfl⟩
  rw [← hB] at ho2
  have HW2 : Hid (OfW w1 B A (fun _ => 0) w2) := Lib.hid ⟨make_row HZ1.out ho2, hb2, by rw [hB]; exact Nat.le_refl _⟩
  have HN0 := Lib.hid (n1_zero (txts F) A)
  rw [← hB]
  have HBQ := Lib.hid hB
  clear ho2 hg2 hb2 hB hi hz0 hz1 hz2
  go_wp2_with fail
  go_loopw [9] (fun i wr => ∃ (k : Nat) (f : Txt → Nat), k ≤ z ∧ i = .int .i64 k ∧ N1 (txts F) A k f ∧ OfW w1 B A f wr) (fun i _ => z - (intOf i).toNat)
  case atStart => exact ⟨0, _, Nat.zero_le _, rfl, HN0.out, HW2.out⟩
  case round =>
   obtain ⟨k, f, hk, rfl, hN, hW⟩ := hrel
   have HN := Lib.hid hN; have HW := Lib.hid hW
   clear hN
   by_cases hlt : k < z
   ·have hkA : k < A.length := by have := HZ1.out; omega
    have HN2 := Lib.hid (n2_zero HN.out hkA)
    have hbk : decide ((k : Int) < (z : Int)) = true := by simpa using (show (k : Int) < z by omega)
    clear hW
    go_wp2_with fail
    go_loopw [10] (fun j wr => ∃ (q : Nat) (f : Txt → Nat), q ≤ zf ∧ j = .int .i64 q ∧ N2 (txts F) A k (A[k]'(by have := HZ1.out; omega)) q f ∧ OfW w1 B A f wr) (fun j _ => zf - (intOf j).toNat)
    case atStart => exact ⟨0, f, Nat.zero_le _, rfl, HN2.out, HW.out⟩
    case round =>
     clear hbk
     obtain ⟨q, f, hq, rfl, hN, hW⟩ := hrel
     have HN := Lib.hid hN; have HW := Lib.hid hW
     by_cases hqz : q < zf
     ·have hqF : q < F.length := by have := HZF.out; omega
      have hqT : q < (txts F).length := by rw [txts_len]; exact hqF
      obtain ⟨_, _, _, e, _, hc⟩ := HFS.out.stays (below_step HB1.out hW.below)
      rw [← HZF.out] at e
      cases e
      obtain ⟨bf, off, rfl, hbl, g⟩ := hc (by omega)
      have c0 := g q hqF
      obtain ⟨_, _, _, e2, _, hc2⟩ := (HA.out.strs).stays hW.below
      rw [strsOf_len, ← HZ1.out] at e2
      cases e2
      obtain ⟨ba, offa, rfl, hbla, g2⟩ := hc2 (by rw [strsOf_len]; omega)
      have d0 := g2 k (by rw [strsOf_len]; exact hkA)
      rw [strsOf_get hkA] at d0
      have htg := txts_get hqF
      have HHIT := Lib.hid (fun he => n2_hit HAN.out hkA hN hqT he)
      have HMISS := Lib.hid (fun he => n2_miss hN hqT he)
      have hle := n2_le hN
      rw [txts_len, ← HZF.out] at hle
      have HPUT := Lib.hid (fun n => hW.put HAN.out hkA n)
      have hrc : wr.cell? ⟨B, k, none⟩ = some (.int .i64 (f A[k] : Nat)) := by rw [hW.row.cell k, nRow_get hkA]
      have hfr := hW.row.free k
      have hBl := hW.row.lt
      rw [htg] at HHIT HMISS
      obtain ⟨n, hn⟩ : ∃ n, n = f A[k] := ⟨_, rfl⟩
      rw [← hn] at hrc hle HHIT
      obtain ⟨t, ht⟩ : ∃ t, t = A[k] := ⟨_, rfl⟩
      rw [← ht] at d0
      obtain ⟨y, hy⟩ : ∃ y : ByteArray, y = ⟨t.toArray⟩ := ⟨_, rfl⟩
      rw [← hy] at d0
      obtain ⟨x, hx⟩ : ∃ x, x = F[q] := ⟨_, rfl⟩
      rw [← hx] at c0 HHIT HMISS
      have hyt : y.data.toList = A[k] := by rw [hy, ← ht]
      have hbq : decide ((q : Int) < (zf : Int)) = true := by simpa using (show (q : Int) < zf by omega)
      clear hc g hc2 g2 htg hn ht hy hx hN hW hqF hqT
      by_cases he : x = y
      ·have q1 := beq_true he
       have HS := Lib.hid (HHIT.out (by rw [he, hyt]))
       clear he hyt
       go_wp2_with fail
       go_quiet (fail)
       have hbq2 : Below wr.heap.size wr (wr.drewN nq) := below_drewN (Below.refl _ _) _
       have HPUT2 := Lib.hid ((HW.out.stays hbq2).put HAN.out hkA (n + 1))
       have hrc2 : (wr.drewN nq).cell? ⟨B, k, none⟩ = some (.int .i64 (n : Nat)) := hrc
       have hfr2 : (wr.drewN nq).frozen? ⟨B, k, none⟩ = false := hfr
       have hBl2 : B < (wr.drewN nq).heap.size := hBl
       clear hbq2 hrc hfr hBl c0 d0
       generalize wr.drewN nq = wq at HPUT2 hrc2 hfr2 hBl2 ⊢
       go_wp2
       go_roundw
       case rel => exact ⟨q + 1, _, by omega, by go_num, HS.out, HPUT2.out⟩
       case measure => simp [intOf]; omega
      ·have q1 := beq_false he
       have HS := Lib.hid (HMISS.out (fun e => he (str_eq' (e.trans hyt.symm))))
       clear he hyt
       go_wp2_with fail
       go_quiet (fail)
       have HWD := Lib.hid (HW.out.stays (below_drewN (Below.refl wr.heap.size wr) nq))
       clear hrc hfr hBl c0 d0
       generalize wr.drewN nq = wq at HWD ⊢
       go_wp2
       go_roundw
       case rel => exact ⟨q + 1, f, by omega, by go_num, HS.out, HWD.out⟩
       case measure => simp [intOf]; omega
     ·have HD := Lib.hid (n2_done hkA hN (by rw [txts_len]; have := HZF.out; omega))
      have hbq : decide ((q : Int) < (zf : Int)) = false := by simp; omega
      clear hN hW
      go_wp2
      go_roundw
      case rel => exact ⟨k + 1, f, by omega, by go_num, HD.out, HW.out⟩
      case measure => simp [intOf]; omega
   ·have HN3 := Lib.hid (n3_zero (O := O) HN.out (by have := HZ1.out; omega))
    have hbk : decide ((k : Int) < (z : Int)) = false := by simp; omega
    clear hW
    go_wp2_with fail
    go_loopw [11] (fun i wr => ∃ (k : Nat) (f : Txt → Nat), k ≤ z ∧ i = .int .i64 k ∧ N3 O (txts F) A k f ∧ OfW w1 B A f wr) (fun i _ => z - (intOf i).toNat)
    case atStart => exact ⟨0, f, Nat.zero_le _, rfl, HN3.out, HW.out⟩
    case round =>
     clear hbk hlt hk
     obtain ⟨k, f, hk, rfl, hN, hW⟩ := hrel
     have HN := Lib.hid hN; have HW := Lib.hid hW
     by_cases hlt : k < z
     ·have hkA : k < A.length := by have := HZ1.out; omega
      have HN4 := Lib.hid (n4_zero HN.out (A[k]'hkA))
      obtain ⟨_, _, _, e2, _, hc2⟩ := (HA.out.strs).stays hW.below
      rw [strsOf_len, ← HZ1.out] at e2
      cases e2
      obtain ⟨ba, offa, rfl, hbla, g2⟩ := hc2 (by rw [strsOf_len]; omega)
      have d0 := g2 k (by rw [strsOf_len]; exact hkA)
      rw [strsOf_get hkA] at d0
      obtain ⟨t, ht⟩ : ∃ t, t = A[k] := ⟨_, rfl⟩
      rw [← ht] at d0 HN4
      obtain ⟨y, hy⟩ : ∃ y : ByteArray, y = ⟨t.toArray⟩ := ⟨_, rfl⟩
      rw [← hy] at d0
      have hyt : y.data.toList = t := by rw [hy]
      have hz1 := got_size (t := t) HR.out HZ.out
      have HG : Hid (∀ (n : Nd) (e : Int), RdOk (gotO O t).data.toList n e → ofL (kidsN n) = kidsL O t ∧ n.ps.length + n.es.length ≤ 2000) := Lib.hid (fun n e h => kids_gotL h)
      have CG := rGet_any _ O y wr (HI.out.stays (below_step HB1.out hW.below))
      rw [hyt] at CG
      have CRD := Lib.hid (fun W => rRead_any (gotO O t) hz1 W)
      obtain ⟨x, hx⟩ : ∃ x, x = gotO O t := ⟨_, rfl⟩
      obtain ⟨b, hbb⟩ : ∃ b, b = (getO O t).isSome := ⟨_, rfl⟩
      rw [← hx] at CG CRD HG; rw [← hbb] at CG
      have HCG := Lib.hid CG
      have HTK := Lib.hid ht
      have hbk : decide ((k : Int) < (z : Int)) = true := by simpa using (show (k : Int) < z by omega)
      clear hc2 g2 hy hyt hz1 CG hx hbb hN hW ht
      go_wp2_with fail
      refine HCG.out.mono ?_
      rintro e w3 ⟨rfl, hb3⟩
      have HW3 := Lib.hid (HW.out.stays hb3)
      have C3 := Lib.hid (CRD.out w3)
      clear hb3 d0
      go_wp2_with fail
      refine C3.out.mono ?_
      rintro e w4 ⟨n, kk, hrd, pv, ev, rfl, hp, he, hb4⟩
      obtain ⟨g1, g2⟩ := HG.out n kk hrd
      obtain ⟨_, a1, cap1, hv1, _, _⟩ := id hp
      obtain ⟨_, a2, cap2, hv2, _, _⟩ := id he
      obtain ⟨z1, hz1⟩ : ∃ z, z = n.ps.length := ⟨_, rfl⟩
      obtain ⟨z2, hz2⟩ : ∃ z, z = n.es.length := ⟨_, rfl⟩
      rw [← hz1] at hv1; rw [← hz2] at hv2
      subst hv1 hv2
      have hb5 : Below w4.heap.size w4 (w4.alloc (.cells #[.int .i64 n.kd, .string n.d, .slice a1 z1 cap1, .slice a2 z2 cap2] 53)) := (Below.refl _ _).alloc (Nat.le_refl _) _
      have CK := rKids_own n _ _ _ (hp.stays hb5) (he.stays hb5) g2
      rw [g1] at CK
      have HCK := Lib.hid CK
      have HW5 := Lib.hid ((HW3.out.stays hb4).stays hb5)
      clear hrd hp he hb4 g1 g2 CK hz1 hz2 hb5
      go_wp2_with fail
      refine HCK.out.mono ?_
      rintro e w6 ⟨vk, rfl, hok, hb6⟩
      have HW6 := Lib.hid (HW5.out.stays hb6)
      have HOK := Lib.hid hok
      obtain ⟨wk, hwk⟩ : ∃ wk, wk = w4.alloc (.cells #[.int .i64 n.kd, .string n.d, .slice a1 z1 cap1, .slice a2 z2 cap2] 53) := ⟨_, rfl⟩
      rw [← hwk] at HOK
      obtain ⟨_, ka, kc, hvk, _, _⟩ := hok.strs
      obtain ⟨zk, hzk⟩ : ∃ z, z = (strsOf (kidsL O t)).length := ⟨_, rfl⟩
      rw [← hzk] at hvk
      subst hvk
      clear hok hb6 hwk hzk
      go_wp2_with fail
      go_loopw [17] (fun j wr => ∃ (q : Nat) (f : Txt → Nat), q ≤ z ∧ j = .int .i64 q ∧ N4 O (txts F) A k t q f ∧ OfW w1 B A f wr ∧ OwnTxt wk wr (.slice ka zk kc) (kidsL O t)) (fun j _ => z - (intOf j).toNat)
      case atStart => exact ⟨0, f, Nat.zero_le _, rfl, HN4.out, HW6.out, HOK.out⟩
      case round =>
       clear hbk
       obtain ⟨q, f, hq, rfl, hN, hW, hO⟩ := hrel
       have HN := Lib.hid hN; have HW := Lib.hid hW; have HO := Lib.hid hO
       by_cases hqz : q < z
       ·have hqA : q < A.length := by have := HZ1.out; omega
        obtain ⟨_, _, _, e2, _, hc2⟩ := (HA.out.strs).stays hW.below
        rw [strsOf_len, ← HZ1.out] at e2
        cases e2
        have g2 := hc2 (by rw [strsOf_len]; omega)
        obtain ⟨_, _, ebo, hbla2, g2⟩ := g2
        cases ebo
        have d0 := g2 q (by rw [strsOf_len]; exact hqA)
        rw [strsOf_get hqA] at d0
        have HHIT := Lib.hid (fun he => n4_hit HAN.out hN hqA he)
        have HMISS := Lib.hid (fun he => n4_miss hN hqA he)
        have hle := n4_le hN (List.getElem_mem hqA)
        rw [txts_len, ← HZF.out, ← HZ1.out] at hle
        have hrc : wr.cell? ⟨B, q, none⟩ = some (.int .i64 (f A[q] : Nat)) := by rw [hW.row.cell q, nRow_get hqA]
        have hfr := hW.row.free q
        have hBl := hW.row.lt
        obtain ⟨n2, hn2⟩ : ∃ n, n = f A[q] := ⟨_, rfl⟩
        rw [← hn2] at hrc hle HHIT
        have HPUT2 := Lib.hid (hW.put HAN.out hqA (n2 + 1))
        have HOP : Hid (OwnTxt wk (wr.setCell ⟨B, q, none⟩ (.int .i64 ((n2 + 1 : Nat) : Int))) (.slice ka zk kc) (kidsL O t)) := Lib.hid (hO.turn hW.row (by decide) (grownBy_set wr B q _))
        obtain ⟨s, hs⟩ : ∃ s, s = A[q] := ⟨_, rfl⟩
        rw [← hs] at d0
        obtain ⟨ys, hys⟩ : ∃ y : ByteArray, y = ⟨s.toArray⟩ := ⟨_, rfl⟩
        rw [← hys] at d0
        have hyt : ys.data.toList = A[q] := by rw [hys, ← hs]
        have CH := refHas_any _ _ ys wr hO.strs
        rw [txts_strsOf, hyt] at CH
        have hbq : decide ((q : Int) < (z : Int)) = true := by simpa using (show (q : Int) < z by omega)
        clear hc2 g2 hn2 hs hys hyt hN hW hO
        by_cases hin : A[q] ∈ kidsO O t
        ·rw [show hasB (kidsL O t) A[q] = true from decide_eq_true (kidsL_mem.2 hin)] at CH
         have HCH := Lib.hid CH
         have HS := Lib.hid (HHIT.out hin)
         clear hin CH
         go_wp2_with fail
         refine HCH.out.mono ?_
         rintro e w7 ⟨rfl, rfl⟩
         go_wp2
         go_roundw
         case rel => exact ⟨q + 1, _, by omega, by go_num, HS.out, HPUT2.out, HOP.out⟩
         case measure => simp [intOf]; omega
        ·rw [show hasB (kidsL O t) A[q] = false from decide_eq_false (fun h => hin (kidsL_mem.1 h))] at CH
         have HCH := Lib.hid CH
         have HS := Lib.hid (HMISS.out hin)
         clear hin CH
         go_wp2_with fail
         refine HCH.out.mono ?_
         rintro e w7 ⟨rfl, rfl⟩
         go_wp2
         go_roundw
         case rel => exact ⟨q + 1, f, by omega, by go_num, HS.out, HW.out, HO.out⟩
         case measure => simp [intOf]; omega
       ·have hD := hN
        rw [HTK.out] at hD
        have HD := Lib.hid (n4_done hkA hD (by have := HZ1.out; omega))
        have hbq : decide ((q : Int) < (z : Int)) = false := by simp; omega
        clear hN hW hO hD
        go_wp2
        go_roundw
        case rel => exact ⟨k + 1, f, by omega, by go_num, HD.out, HW.out⟩
        case measure => simp [intOf]; omega
     ·have hkz : k = A.length := by have := HZ1.out; omega
      have hN5 := hN
      rw [hkz] at hN5
      have HCT := Lib.hid (listC_counts HALL.out HAR.out hN5)
      have hbk : decide ((k : Int) < (z : Int)) = false := by simp; omega
      obtain ⟨W5, hw5⟩ : ∃ W5, W5 = wr := ⟨_, rfl⟩
      have HW5 := Lib.hid (show OfW w1 B A f W5 by rw [hw5]; exact hW)
      rw [← hw5]
      clear hkz hN5 hN hW hw5 HW
      go_wp2_with fail
      go_loopw [18, 19] (fun o i wr => ∃ (i' : Nat) (u : Value), i' ≤ z ∧ i = .int .i64 i' ∧ u = o ∧ OwnC W5.heap.size wr u (listC f (A.take i')) ∧ Below W5.heap.size W5 wr) (fun _ i _ => z - (intOf i).toNat)
      case atStart => exact ⟨0, _, Nat.zero_le _, rfl, rfl, cts_own_nil _ _, Below.refl _ _⟩
      case round =>
       clear hbk hlt hk
       obtain ⟨i, u, hi, rfl, rfl, hO, hBw⟩ := hrel
       have HOU := Lib.hid hO; have HB := Lib.hid hBw
       obtain ⟨_, ua, uc, hu, _, _⟩ := hO.is
       obtain ⟨zu2, hzu2⟩ : ∃ z, z = (listC f (A.take i)).length := ⟨_, rfl⟩
       rw [← hzu2] at hu
       have HLM : Hid ((listC f (A.take i)).length ≤ 1000000) := Lib.hid (by unfold listC; rw [List.length_map, List.length_take]; omega)
       subst hu
       by_cases hlt : i < z
       ·have hiA : i < A.length := by have := HZ1.out; omega
        obtain ⟨_, _, _, e2, _, hc2⟩ := (HA.out.strs).stays (HW5.out.below.trans (hBw.mono HW5.out.below.size))
        rw [strsOf_len, ← HZ1.out] at e2
        cases e2
        obtain ⟨ba, offa, rfl, hbla, g2⟩ := hc2 (by rw [strsOf_len]; omega)
        have d0 := g2 i (by rw [strsOf_len]; exact hiA)
        rw [strsOf_get hiA] at d0
        have HST := Lib.hid (listC_snoc (f := f) hiA)
        have hrow : Row wr B (nRow A f) 3 := HW5.out.row.step hBw
        have HCN0 : wr.cell? ⟨B, i, none⟩ = some (.int .i64 (f A[i] : Nat)) := by rw [hrow.cell i, nRow_get hiA]
        obtain ⟨x, hx⟩ : ∃ x : ByteArray, x = ⟨A[i].toArray⟩ := ⟨_, rfl⟩
        obtain ⟨n, hn⟩ : ∃ n, n = f A[i] := ⟨_, rfl⟩
        rw [← hx] at d0 HST; rw [← hn] at HCN0 HST
        have HCX : Hid (ba < wr.heap.size ∧ wr.cell? ⟨ba, offa + i, none⟩ = some (.string x)) := Lib.hid ⟨hbla, d0⟩
        have HCN : Hid (B < wr.heap.size ∧ wr.cell? ⟨B, i, none⟩ = some (.int .i64 (n : Nat))) := Lib.hid ⟨hrow.lt, HCN0⟩
        have hbk : decide ((i : Int) < (z : Int)) = true := by simpa using (show (i : Int) < z by omega)
        obtain ⟨zu, hzuu⟩ : ∃ zu, zu = zu2 := ⟨_, rfl⟩
        rw [← hzuu] at HOU ⊢
        clear hc2 g2 d0 hrow HCN0 hx hn hO hBw hiA hzu2 hzuu
        go_wp2_with fail
        refine wp_region_wordsG (by kernel_rfl) (by kernel_rfl) (appT 11 (fun w w' => w.grownBy w' (Value.slice ua zu uc).ownBlock)) (HeldN W5) cofE (cofU W5 ba B i offa ca n z (.slice ua zu uc) (listC f (A.take i)) x) 16 cofN [12] (by kernel_rfl) (by kernel_rfl) (by kernel_rfl)
         cofB (by kernel_rfl) (fun ix kx v e w w' hi hk hne hb hU hT => cof_T _ _ _ _ _ _ _ _ _ _ _  ix kx v e w w' hk hne hb hU hT) (by decide) (⟨HB.out.drew⟩) (fun kx hk hge => ?hv0)
         [104, 105, 106, 107, 108, 109, 110, 111, 112, 113, 114, 115, 18] (by kernel_rfl) (forall_ops ?steps) ?behind
        case hv0 =>
         have hge' : 13 ≤ kx := hge
         rcases (show kx = 13 ∨ kx = 14 ∨ kx = 15 by omega) with rfl | rfl | rfl
         ·exact HCX.out
         ·exact HCN.out
         ·exact HOU.out.stays ((Below.refl _ _).drew)
        case steps =>
         refine ⟨?_, ?_, ?_, ?_, ?_, ?_, ?_, ?_, ?_, ?_, ?_, ?_, ?_, trivial⟩
         ·refine stepG_of rfl ?_
          exact stepR_value (t := 104) ((Value.slice ua zu uc)) rfl (fun _ => appT_other (by decide) (Below.refl _ _)) (fun ac w hG hN hO => by
           have e18 : slot ac 18 = .slice ua zu uc := hO 18 (by kernel_rfl)
           exact run_move_slot (.inl rfl) e18) (fun ac w hG hN => rfl)
         ·refine stepG_of rfl ?_
          exact stepR_value (t := 105) (.slice (some ⟨ba, offa, none⟩) z ca) rfl (fun _ => appT_other (by decide) (Below.refl _ _)) (fun ac w hG hN hO => by
           have e6 : slot ac 6 = .slice (some ⟨ba, offa, none⟩) z ca := hO 6 (by kernel_rfl)
           exact run_move_slot (.inl rfl) e6) (fun ac w hG hN => rfl)
         ·refine stepG_of rfl ?_
          exact stepR_value (t := 106) (.int .i64 (i : Nat)) rfl (fun _ => appT_other (by decide) (Below.refl _ _)) (fun ac w hG hN hO => by
           have e19 : slot ac 19 = .int .i64 (i : Nat) := hO 19 (by kernel_rfl)
           exact run_move_slot (.inl rfl) e19) (fun ac w hG hN => rfl)
         ·refine stepG_of rfl ?_
          exact stepR_value (t := 107) (.pointer (some ⟨ba, offa + i, none⟩)) rfl (fun _ => appT_other (by decide) (Below.refl _ _)) (fun ac w9 hG hN hO => by
           have e105 : slot ac 105 = .slice (some ⟨ba, offa, none⟩) z ca := hN 1 (by decide)
           have e106 : slot ac 106 = .int .i64 (i : Nat) := hN 2 (by decide)
           have f := slot_at e105
           have f2 := slot_at e106
           unfold execOp; go_simp) (fun ac w9 hG hN => rfl)
         ·refine stepG_of rfl ?_
          exact stepR_value (t := 108) (.string x) rfl (fun _ => appT_other (by decide) (Below.refl _ _)) (fun ac w9 hG hN hO => by
           have e107 : slot ac 107 = .pointer (some ⟨ba, offa + i, none⟩) := hN 3 (by decide)
           have hx : ba < w9.heap.size ∧ w9.cell? ⟨ba, offa + i, none⟩ = some (.string x) := hN 13 (by decide)
           have c0 := hx.2
           have f := slot_at e107
           unfold execOp; go_simp) (fun ac w9 hG hN => rfl)
         ·refine stepG_of rfl ?_
          exact stepR_value (t := 109) (.slice (some ⟨B, 0, none⟩) z z) rfl (fun _ => appT_other (by decide) (Below.refl _ _)) (fun ac w hG hN hO => by
           have e8 : slot ac 8 = .slice (some ⟨B, 0, none⟩) z z := hO 8 (by kernel_rfl)
           exact run_move_slot (.inl rfl) e8) (fun ac w hG hN => rfl)
         ·refine stepG_of rfl ?_
          exact stepR_value (t := 110) (.int .i64 (i : Nat)) rfl (fun _ => appT_other (by decide) (Below.refl _ _)) (fun ac w hG hN hO => by
           have e19 : slot ac 19 = .int .i64 (i : Nat) := hO 19 (by kernel_rfl)
           exact run_move_slot (.inl rfl) e19) (fun ac w hG hN => rfl)
         ·refine stepG_of rfl ?_
          exact stepR_value (t := 111) (.pointer (some ⟨B, i, none⟩)) rfl (fun _ => appT_other (by decide) (Below.refl _ _)) (fun ac w9 hG hN hO => by
           have e109 : slot ac 109 = .slice (some ⟨B, 0, none⟩) z z := hN 5 (by decide)
           have e110 : slot ac 110 = .int .i64 (i : Nat) := hN 6 (by decide)
           have f := slot_at e109
           have f2 := slot_at e110
           unfold execOp; go_simp) (fun ac w9 hG hN => rfl)
         ·refine stepG_of rfl ?_
          exact stepR_value (t := 112) (.int .i64 (n : Nat)) rfl (fun _ => appT_other (by decide) (Below.refl _ _)) (fun ac w9 hG hN hO => by
           have e111 : slot ac 111 = .pointer (some ⟨B, i, none⟩) := hN 7 (by decide)
           have hx : B < w9.heap.size ∧ w9.cell? ⟨B, i, none⟩ = some (.int .i64 (n : Nat)) := hN 14 (by decide)
           have c0 := hx.2
           have f := slot_at e111
           unfold execOp; go_simp) (fun ac w9 hG hN => rfl)
         ·refine stepG_of rfl ?_
          exact stepR_value (t := 113) (.agg #[.string x, .int .i64 (n : Nat)]) rfl (fun _ => appT_other (by decide) (Below.refl _ _)) (fun ac w hG hN hO => by
           have e108 : slot ac 108 = .string x := hN 4 (by decide)
           have e112 : slot ac 112 = .int .i64 (n : Nat) := hN 8 (by decide)
           have f108 := slot_at e108
           have f112 := slot_at e112
           unfold execOp; go_simp) (fun ac w hG hN => rfl)
         ·refine stepG_of rfl ?_
          intro ac w9 hG hN hO
          have e113 : slot ac 113 = .agg #[.string x, .int .i64 (n : Nat)] := hN 9 (by decide)
          refine wp_build_ct 113 rfl (x := (⟨x, (n : Nat)⟩ : Ct)) e113 ?_
          exact ⟨_, rfl, appT_other (by decide) ((Below.refl _ _).alloc (Nat.le_refl _) _), hG.on ((Below.refl _ _).alloc (Nat.le_refl _) _), oneCt_new w9 (⟨x, (n : Nat)⟩ : Ct)⟩
         ·refine stepG_of rfl ?_
          intro ac w9 hG hN hO
          have e104 : slot ac 104 = .slice ua zu uc := hN 0 (by decide)
          have e114 : OneCt w9 (slot ac 114) (⟨x, (n : Nat)⟩ : Ct) := hN 10 (by decide)
          have hown : OwnC W5.heap.size w9 (.slice ua zu uc) (listC f (A.take i)) := hN 15 (by decide)
          refine wp_append_one_ct 104 114 rfl hown hG.below.size (slotE e104) e114 HLM.out ?_
          intro v' w' hown' hg
          exact ⟨v', rfl, appT_at hg, ⟨hG.below.grown hg hG.below.size (fun j hj => (hown.lt j hj).1)⟩, hown'⟩
         ·refine stepG_of rfl ?_
          intro ac w hG hN hO
          have e115 : OwnC W5.heap.size w (slot ac 115) (listC f (A.take i) ++ [(⟨x, (n : Nat)⟩ : Ct)]) := hN 11 (by decide)
          exact wp_value (run_move_slot (v := slot ac 115) (.inr rfl) rfl) ⟨_, rfl, (fun _ => appT_other (by decide) (Below.refl _ _)) w, hG, e115⟩
        case behind =>
         intro ac w5 hG hV hS ha
         have h12 : OwnC W5.heap.size w5 (slot ac 18) (listC f (A.take i) ++ [(⟨x, (n : Nat)⟩ : Ct)]) := hV 12 (by decide) (by decide)
         generalize slot ac = sl at ha h12
         subst ha
         simp only [patchL, List.contains_cons, List.contains_nil, Nat.reduceBEq, Bool.or_false, Bool.or_true, if_true, Bool.false_eq_true, if_false, Nat.reduceAdd]
         generalize sl 104 = s104
         generalize sl 105 = s105
         generalize sl 106 = s106
         generalize sl 107 = s107
         generalize sl 108 = s108
         generalize sl 109 = s109
         generalize sl 110 = s110
         generalize sl 111 = s111
         generalize sl 112 = s112
         generalize sl 113 = s113
         generalize sl 114 = s114
         generalize sl 115 = s115
         generalize sl 18 = s18 at h12 ⊢
         clear hV hS
         have HO9 := Lib.hid h12; have HB9 := Lib.hid hG.below
         clear hG h12
         go_wp2
         go_roundw
         case rel => exact ⟨i + 1, _, by omega, by go_num, rfl, by rw [HST.out]; exact HO9.out, HB9.out⟩
         case measure => simp [intOf]; omega
       ·have hall : A.take i = A := List.take_of_length_le (by have := HZ1.out; omega)
        rw [hall] at hO
        have HOE := Lib.hid (hO.low (Nat.le_trans HB1.out.size HW5.out.below.size))
        have HBE := Lib.hid (below_step HB1.out (HW5.out.below.trans (hBw.mono HW5.out.below.size)))
        have hbk : decide ((i : Int) < (z : Int)) = false := by simp; omega
        clear hall hO hBw hzu2
        go_wp2
        go_ret2
        exact ⟨_, _, true, rfl, HOE.out, (by have := HAC.out; simpa using this), (fun h => (by cases h)), fun _ => HCT.out, HBE.out⟩
end Go.Proofs.YtokknppjeckppaaGreatDoor
set_option linter.unusedVariables false
namespace Go.Proofs.YtokknppjeckppaaGreatDoor
open Go.RowKit
attribute [local go_sem] Oper.semAt_some
set_option maxRecDepth 100000 in
set_option maxHeartbeats 4000000 in
theorem rFitC_any (v : Value) (L : List Ct) (w : World) (hv : IsCts w v L) (hF : FitC L) :
  Calls Tryz.prog 16 #[v] w fun e w' => e = .returned (.bool true) ∧ Below w.heap.size w w' := by
 obtain ⟨hm, a, cap, rfl, _, hc⟩ := hv
 have hmm : L.length ≤ 9223372036854775807 := by unfold maxLen at hm; omega
 have HC := Lib.hid hc; have HF := Lib.hid hF
 clear hc hm hF
 go_enter Tryz.func16, Tryz.ntmps16
 go_wp2
 go_loopw [3] (fun i wr => ∃ k m : Nat, k ≤ L.length ∧ i = .int .i64 k ∧ wr = w.drewN m) (fun i _ => L.length - (intOf i).toNat)
 case atStart => exact ⟨0, 0, Nat.zero_le _, rfl, rfl⟩
 case round =>
  obtain ⟨k, m, hk, rfl, rfl⟩ := hrel
  by_cases hlt : k < L.length
  ·obtain ⟨b1, o1, rfl, _, g1⟩ := HC.out (by omega)
   obtain ⟨q1, q2⟩ := g1 k hlt
   have hx1 := HF.out.2 _ (List.getElem_mem hlt)
   have HUP := Lib.hid (fun j (hj : j < L.length) (h : j < k) => List.pairwise_iff_getElem.1 HF.out.1 j k hj hlt h)
   obtain ⟨y, hy⟩ : ∃ y, y = L[k] := ⟨_, rfl⟩
   rw [← hy] at q1 q2 hx1 HUP
   have hbk : decide ((k : Int) < (L.length : Int)) = true := by simpa using (show (k : Int) < L.length by omega)
   have hn1 : decide (y.n < 1) = false := decide_eq_false (by omega)
   clear hy
   by_cases h0 : k = 0
   ·subst h0
    simp only [Nat.zero_mul, Nat.add_zero] at q1 q2
    clear g1
    go_wp2_with fail
    go_quiet (fail)
    go_wp2
    go_roundw
    case rel => exact ⟨1, m + nq, by omega, by go_num, by simp [World.drewN]⟩
    case measure => simp [intOf]; omega
   ·obtain ⟨p1, _⟩ := g1 (k - 1) (by omega)
    have hup := HUP.out (k - 1) (by omega) (by omega)
    obtain ⟨z, hz⟩ : ∃ z, z = L[k - 1] := ⟨_, rfl⟩
    rw [← hz] at p1 hup
    clear hz g1
    obtain ⟨j, hj⟩ : ∃ j, j = k - 1 := ⟨_, rfl⟩
    obtain rfl : k = j + 1 := by omega
    simp only [Nat.add_sub_cancel] at p1
    clear hj
    have hk0 : decide ((0 : Int) < ((j + 1 : Nat) : Int)) = true := by simp
    have hrb : Op.bytesLess z.k.toList y.k.toList = true := by rw [less_eq]; exact decide_eq_true hup
    clear hup
    go_wp2_with fail
    go_quiet (fail)
    go_wp2
    go_roundw
    case rel => exact ⟨j + 2, m + nq, by omega, by go_num, by simp [World.drewN]⟩
    case measure => simp [intOf]; omega
  ·have hge : decide ((k : Int) < (L.length : Int)) = false := by simp; omega
   go_wp2
   go_ret
   exact ⟨rfl, below_drewN (Below.refl _ _) _⟩
end Go.Proofs.YtokknppjeckppaaGreatDoor
set_option linter.unusedVariables false
namespace Go.Proofs.YtokknppjeckppaaGreatDoor
theorem sha_one {l p : List UInt8} (h : l ++ closing l.length = p) (hp : p.length = 64) : shaSum l = (blk first p).bytes := by
 unfold shaSum; rw [h, absorb_one first hp]
def exK1 : List UInt8 := [35, 200, 106, 138, 222, 208, 173, 129, 248, 17, 27, 176, 126, 110, 192, 255, 176, 12, 229, 191, 239, 0, 20, 23, 192, 114, 67, 244, 63, 215, 11, 47]
def exK2 : List UInt8 := [112, 34, 133, 132, 174, 75, 116, 170, 179, 229, 181, 94, 246, 83, 67, 60, 235, 16, 20, 80, 89, 200, 252, 218, 58, 133, 255, 106, 144, 83, 147, 250]
def exK3 : List UInt8 := [178, 49, 27, 87, 110, 234, 87, 44, 78, 86, 187, 115, 218, 230, 57, 199, 225, 254, 188, 183, 128, 157, 193, 145, 192, 93, 132, 191, 196, 138, 171, 187]
theorem ex_pad1 : ([1, 120] : List UInt8) ++ closing 2 = [1, 120, 128] ++ List.replicate 60 0 ++ [16] := by decide +kernel
theorem ex_sum1 : shaSum [1, 120] = exK1 := by
 rw [sha_one ex_pad1 (by decide)]
 decide +kernel
theorem ex_pad2 : ([2, 1] ++ exK1 ++ [1] : List UInt8) ++ closing 35 = [2, 1] ++ exK1 ++ [1, 128] ++ List.replicate 26 0 ++ [1, 24] := by decide +kernel
theorem ex_sum2 : shaSum ([2, 1] ++ exK1 ++ [1]) = exK2 := by
 rw [sha_one (l := [2, 1] ++ exK1 ++ [1]) ex_pad2 (by decide)]
 decide +kernel
theorem ex_pad3 : ([3, 1, 1, 97, 2] ++ exK2 : List UInt8) ++ closing 37 = [3, 1, 1, 97, 2] ++ exK2 ++ [128] ++ List.replicate 24 0 ++ [1, 40] := by decide +kernel
theorem ex_sum3 : shaSum ([3, 1, 1, 97, 2] ++ exK2) = exK3 := by
 rw [sha_one (l := [3, 1, 1, 97, 2] ++ exK2) ex_pad3 (by decide)]
 decide +kernel
theorem node_ob {O : List Ob} {t : Txt} {n : Nd} (h : getO O t = some (obN n)) (hf : fitN n = true) : nodeO O t = some n := by
 unfold nodeO
 rw [h]
 show readN (obN n).u = _
 rw [obN_u, wrN_fit hf, readN_wr hf]
theorem kids_ob {O : List Ob} {t : Txt} {n : Nd} (h : getO O t = some (obN n)) (hf : fitN n = true) : kidsO O t = kidsN n := by
 unfold kidsO; rw [node_ob h hf]
theorem kids_get {O P : List Ob} {t : Txt} (h : getO O t = getO P t) : kidsO O t = kidsO P t := by
 unfold kidsO nodeO; rw [h]
theorem kids_has {O : List Ob} {t u : Txt} (h : u ∈ kidsO O t) : (getO O t).isSome = true := by
 unfold kidsO nodeO at h
 cases hg : getO O t with
 | none => rw [hg] at h; cases h
 | some y => rfl
theorem list_bound {α : Type} (f : α → Nat) : ∀ (A : List α), ∃ M, ∀ t ∈ A, f t < M
 | [] => ⟨0, fun t h => (by cases h)⟩
 | x :: A => by
  obtain ⟨M, h⟩ := list_bound f A
  exact ⟨max (f x + 1) M, fun t ht => by
   rcases List.mem_cons.1 ht with rfl | ht
   ·omega
   ·have := h t ht; omega⟩
structure OrdO (O : List Ob) : Prop where
 fit : FitO O
 node : ∀ y ∈ O, ∃ n, fitN n = true ∧ y = obN n
 rk : ∃ rk : Txt → Nat, ∀ t, ∀ u ∈ kidsO O t, rk u < rk t ∧ (getO O u).isSome = true
theorem ord_nil : OrdO [] := ⟨fitO_nil, fun y h => (by cases h), fun _ => 0, fun t u h => by have := kids_has h; simp [getO] at this⟩
theorem OrdO.noRing {O : List Ob} (h : OrdO O) : NoRing O := by
 obtain ⟨rk, h⟩ := h.rk
 exact ⟨rk, fun t u hu => (h t u hu).1⟩
theorem OrdO.is {O : List Ob} (h : OrdO O) {t : Txt} (ht : (getO O t).isSome = true) : (nodeO O t).isSome = true := by
 obtain ⟨y, hy⟩ := Option.isSome_iff_exists.1 ht
 obtain ⟨n, hn, rfl⟩ := h.node y ((getO_some h.fit.1).1 hy).1
 rw [node_ob hy hn]; rfl
theorem OrdO.whole {O : List Ob} (h : OrdO O) {R : List Txt} (hR : ∀ r ∈ R, r.length = 32 → (getO O r).isSome = true) : WholeO O R := fun t ht => by
 refine h.is ?_
 obtain ⟨rk, hk⟩ := h.rk
 cases ht with
 | start h1 h2 => exact hR t h1 h2
 | kid _ h2 => exact (hk _ t h2).2
theorem put_has {O : List Ob} (h : FitO O) {n : Nd} (hn : fitN n = true) {u : Txt} (hu : u = keyN n ∨ (getO O u).isSome = true) : (getO (putN O n) u).isSome = true := by
 by_cases hg : (getO O u).isSome = true
 ·obtain ⟨y, hy⟩ := Option.isSome_iff_exists.1 hg
  obtain ⟨h1, h2⟩ := (getO_some h.1).1 hy
  have := getO_add_old h (obN n) h1
  rw [h2] at this
  show (getO (addO O (obN n)) u).isSome = true
  rw [this]; rfl
 ·obtain rfl := hu.resolve_right hg
  have := getO_add_self h (x := obN n) (by rw [obN_t]; simpa using hg) (by rw [obN_t]; exact keyN_len hn)
  rw [obN_t] at this
  show (getO (addO O (obN n)) _).isSome = true
  rw [this]; rfl
theorem ord_put {O : List Ob} (h : OrdO O) {n : Nd} (hn : fitN n = true) (hk : ∀ u ∈ kidsN n, (getO O u).isSome = true) : OrdO (putN O n) := by
 by_cases hg : (getO O (keyN n)).isSome = true
 ·have e : putN O n = O := addO_there (.inl (by rw [obN_t]; exact hg))
  rw [e]; exact h
 ·have h0 : getO O (keyN n) = none := by simpa using hg
  have hs : getO (putN O n) (keyN n) = some (obN n) := by
   have := getO_add_self h.fit (x := obN n) (by rw [obN_t]; exact h0) (by rw [obN_t]; exact keyN_len hn)
   rwa [obN_t] at this
  have ho : ∀ t, t ≠ keyN n → getO (putN O n) t = getO O t := fun t ht => getO_add_other h.fit (obN n) (by rw [obN_t]; exact ht)
  refine ⟨addO_fit h.fit _, fun y hy => ?_, ?_⟩
  ·rcases mem_addO.1 hy with h1 | ⟨rfl, _, _⟩
   ·exact h.node y h1
   ·exact ⟨n, hn, rfl⟩
  ·obtain ⟨rk, hr⟩ := h.rk
   obtain ⟨M, hM⟩ := list_bound rk (kidsN n)
   refine ⟨fun t => if t = keyN n then M else rk t, fun t u hu => ?_⟩
   by_cases ht : t = keyN n
   ·subst ht
    rw [kids_ob hs hn] at hu
    have hp := hk u hu
    have hne : u ≠ keyN n := fun e => by rw [e, h0] at hp; cases hp
    refine ⟨?_, put_has h.fit hn (.inr hp)⟩
    show (if u = keyN n then M else rk u) < (if keyN n = keyN n then M else rk (keyN n))
    rw [if_neg hne, if_pos rfl]
    exact hM u hu
   ·rw [kids_get (ho t ht)] at hu
    obtain ⟨h1, h2⟩ := hr t u hu
    have hne : u ≠ keyN n := fun e => by rw [e, h0] at h2; cases h2
    refine ⟨?_, put_has h.fit hn (.inr h2)⟩
    show (if u = keyN n then M else rk u) < (if t = keyN n then M else rk t)
    rw [if_neg hne, if_neg ht]
    exact h1
def Bef (K : List Txt) : List Nd → Prop
 | [] => True
 | n :: S => (∀ u ∈ kidsN n, u ∈ K) ∧ Bef (K ++ [keyN n]) S
theorem bef_mono : ∀ {S : List Nd} {K K' : List Txt}, (∀ u ∈ K, u ∈ K') → Bef K S → Bef K' S
 | [], _, _, _, _ => trivial
 | n :: S, K, K', h, hb => ⟨fun u hu => h u (hb.1 u hu), bef_mono (fun u hu => by
   rcases List.mem_append.1 hu with hu | hu
   ·exact List.mem_append_left _ (h u hu)
   ·exact List.mem_append_right _ hu) hb.2⟩
theorem bef_app : ∀ {S T : List Nd} {K : List Txt}, Bef K S → Bef (K ++ S.map keyN) T → Bef K (S ++ T)
 | [], T, K, _, h => by simpa using h
 | n :: S, T, K, hb, h => ⟨hb.1, bef_app hb.2 (by simpa using h)⟩
theorem bef_flat {α : Type} {f : α → List Nd} : ∀ {l : List α} {K : List Txt}, (∀ x ∈ l, Bef [] (f x)) → Bef K (l.flatMap f)
 | [], _, _ => trivial
 | x :: l, K, h => by
  rw [List.flatMap_cons]
  exact bef_app (bef_mono (fun u hu => by cases hu) (h x (List.mem_cons_self ..))) (bef_flat fun y hy => h y (List.mem_cons_of_mem _ hy))
theorem bef_bare : ∀ {S : List Nd} {K : List Txt}, (∀ n ∈ S, kidsN n = []) → Bef K S
 | [], _, _ => trivial
 | n :: S, K, h => ⟨fun u hu => (by rw [h n (List.mem_cons_self ..)] at hu; cases hu), bef_bare fun m hm => h m (List.mem_cons_of_mem _ hm)⟩
theorem bef_file (c : List UInt8 → Nat) (l : List UInt8) : Bef [] (seqF c l) := by
 refine bef_app (bef_bare fun n hn => ?_) ⟨fun u hu => ?_, trivial⟩
 ·obtain ⟨t, _, rfl⟩ := List.mem_map.1 hn
  rfl
 ·rcases List.mem_append.1 hu with hu | hu
  ·obtain ⟨p, hp, rfl⟩ := List.mem_map.1 hu
   obtain ⟨t, ht, rfl⟩ := List.mem_map.1 hp
   refine List.mem_append_right _ (List.mem_map.2 ⟨pieceN t, List.mem_map.2 ⟨t, ht, rfl⟩, ?_⟩)
   unfold partP; simp
  ·cases hu
theorem bef_dir (c : List UInt8 → Nat) (L : List It) : ∀ (k : Nat) (d : List UInt8), Bef [] (seqD c L k d)
 | 0, d => bef_bare fun n hn => by rw [List.mem_singleton.1 hn]; rfl
 | k + 1, d => by
  refine bef_app (bef_flat fun x hx => ?_) ⟨fun u hu => ?_, trivial⟩
  ·cases hd : x.d
   ·rw [if_neg (by decide)]; exact bef_file c x.b
   ·rw [if_pos rfl]; exact bef_dir c L k x.t
  ·rcases List.mem_append.1 hu with hu | hu
   ·cases hu
   ·obtain ⟨e, he, rfl⟩ := List.mem_map.1 hu
    rw [dirN_es] at he
    obtain ⟨x, hx, rfl⟩ := List.mem_map.1 he
    refine List.mem_append_right _ (List.mem_map.2 ⟨subN c L k x, List.mem_flatMap.2 ⟨x, hx, ?_⟩, by unfold entE; simp⟩)
    unfold subN
    cases hd : x.d
    ·rw [if_neg (by decide), if_neg (by decide)]; exact file_mem _ _
    ·rw [if_pos rfl, if_pos rfl]; exact top_mem _ _ _ _
theorem ord_puts : ∀ {S : List Nd} {O : List Ob} {K : List Txt}, OrdO O → (∀ n ∈ S, fitN n = true) → (∀ u ∈ K, (getO O u).isSome = true) → Bef K S → OrdO (putsN O S)
 | [], _, _, h, _, _, _ => h
 | n :: S, O, K, h, hf, hK, hb => by
  have hn := hf n (List.mem_cons_self ..)
  rw [putsN_cons]
  refine ord_puts (K := K ++ [keyN n]) (ord_put h hn fun u hu => hK u (hb.1 u hu)) (fun m hm => hf m (List.mem_cons_of_mem _ hm)) (fun u hu => ?_) hb.2
  rcases List.mem_append.1 hu with hu | hu
  ·exact put_has h.fit hn (.inr (hK u hu))
  ·exact put_has h.fit hn (.inl (List.mem_singleton.1 hu))
theorem ord_tree {c : List UInt8 → Nat} {L : List It} (R : ReadyT c L) : OrdO (objsT c L) :=
 ord_puts ord_nil (seqT_fit R) (fun u hu => by cases hu) (bef_dir c L 9 [])
def bothO (X Y : List Ob) : List Ob := Y.foldl addO X
theorem both_fit : ∀ {Y X : List Ob}, FitO X → FitO (bothO X Y)
 | [], _, h => h
 | y :: Y, X, h => both_fit (Y := Y) (addO_fit h y)
theorem both_get : ∀ {Y X : List Ob}, FitO X → FitO Y → ∀ t, getO (bothO X Y) t = (getO X t).or (getO Y t)
 | [], X, _, _, t => by
  show getO X t = (getO X t).or none
  simp
 | y :: Y, X, hX, hY, t => by
  have hY' : FitO Y := ⟨(List.pairwise_cons.1 hY.1).2, fun z hz => hY.2 z (List.mem_cons_of_mem _ hz)⟩
  show getO (bothO (addO X y) Y) t = _
  rw [both_get (addO_fit hX y) hY']
  have e : getO (y :: Y) t = if y.t = t then some y else getO Y t := by
   unfold getO
   rw [List.find?_cons]
   by_cases h : y.t = t <;> simp [h]
  rw [e]
  by_cases ht : y.t = t
  ·subst ht
   rw [if_pos rfl]
   cases hg : getO X y.t with
   | some z =>
    rw [addO_there (.inl (by rw [hg]; rfl)), hg]; rfl
   | none => rw [getO_add_self hX hg (hY.2 y (List.mem_cons_self ..))]; rfl
  ·rw [if_neg ht, getO_add_other hX y (fun h => ht h.symm)]
theorem both_node : ∀ {Y X : List Ob} {z : Ob}, z ∈ bothO X Y → z ∈ X ∨ z ∈ Y
 | [], _, _, h => .inl h
 | y :: Y, X, z, h => by
  rcases both_node (Y := Y) (X := addO X y) h with h | h
  ·rcases mem_addO.1 h with h | ⟨rfl, _⟩
   ·exact .inl h
   ·exact .inr (List.mem_cons_self ..)
  ·exact .inr (List.mem_cons_of_mem _ h)
theorem ord_both {X Y : List Ob} (hX : OrdO X) (hY : OrdO Y) : OrdO (bothO X Y) := by
 have hg := both_get hX.fit hY.fit
 refine ⟨both_fit hX.fit, fun z hz => (both_node hz).elim (hX.node z) (hY.node z), ?_⟩
 obtain ⟨rx, kx⟩ := hX.rk
 obtain ⟨ry, ky⟩ := hY.rk
 obtain ⟨M, hM⟩ := list_bound (fun y : Ob => rx y.t) X
 have hin : ∀ t, (getO X t).isSome = true → rx t < M := fun t h => by
  obtain ⟨y, hy⟩ := Option.isSome_iff_exists.1 h
  obtain ⟨h1, h2⟩ := (getO_some hX.fit.1).1 hy
  have := hM y h1
  rwa [h2] at this
 refine ⟨fun t => if (getO X t).isSome = true then rx t else M + ry t, fun t u hu => ?_⟩
 show (if (getO X u).isSome = true then rx u else M + ry u) < (if (getO X t).isSome = true then rx t else M + ry t) ∧ _
 by_cases ht : (getO X t).isSome = true
 ·rw [kids_get (P := X) (by rw [hg]; cases hh : getO X t with
   | some z => rfl
   | none => rw [hh] at ht; cases ht)] at hu
  obtain ⟨h1, h2⟩ := kx t u hu
  rw [if_pos h2, if_pos ht, hg]
  refine ⟨h1, ?_⟩
  cases hh : getO X u with
  | some z => rfl
  | none => rw [hh] at h2; cases h2
 ·rw [kids_get (P := Y) (by rw [hg]; cases hh : getO X t with
   | none => rfl
   | some z => rw [hh] at ht; exact absurd rfl ht)] at hu
  obtain ⟨h1, h2⟩ := ky t u hu
  rw [if_neg ht, hg]
  by_cases hu2 : (getO X u).isSome = true
  ·rw [if_pos hu2]
   refine ⟨by have := hin u hu2; omega, ?_⟩
   cases hh : getO X u with
   | some z => rfl
   | none => rw [hh] at hu2; cases hu2
  ·rw [if_neg hu2]
   refine ⟨by omega, ?_⟩
   cases hh : getO X u with
   | some z => rfl
   | none => exact h2
theorem both_has {X Y : List Ob} (hX : FitO X) (hY : FitO Y) {t : Txt} (h : (getO X t).isSome = true ∨ (getO Y t).isSome = true) : (getO (bothO X Y) t).isSome = true := by
 rw [both_get hX hY]
 cases hh : getO X t with
 | some z => rfl
 | none =>
  rcases h with h | h
  ·rw [hh] at h; cases h
  ·exact h
end Go.Proofs.YtokknppjeckppaaGreatDoor
set_option linter.unusedVariables false
namespace Go.Proofs.YtokknppjeckppaaGreatDoor
open Go.RowKit
attribute [local go_sem] Oper.semAt_some
theorem sum_mem_Fgn {l : List Nat} {n : Nat} (h : n ∈ l) : n ≤ l.sum := by
 induction l with
 | nil => cases h
 | cons a l ih =>
  rw [List.sum_cons]
  rcases List.mem_cons.1 h with rfl | h
  ·omega
  ·have := ih h; omega
theorem small_size {O : List Ob} (h : small13 O) : ∀ y ∈ O, y.r.size ≤ 20000 := fun y hy => by
 have h1 : y.r.size ≤ sizeO O := sum_mem_Fgn (List.mem_map.2 ⟨y, hy, rfl⟩)
 have := h.2.1; omega
noncomputable def kidsY (y : Ob) : List Txt := match readN y.u with
 | none => []
 | some n => kidsN n
noncomputable def allK (O : List Ob) : List Txt := O.flatMap kidsY
theorem kidsY_len (y : Ob) : (kidsY y).length ≤ 1100 := by
 unfold kidsY
 cases h : readN y.u with
 | none => exact Nat.zero_le _
 | some n =>
  have hf := (readN_some h).1
  show (keysP n.ps ++ keysE n.es).length ≤ _
  rw [List.length_append, keysP_len, keysE_len]
  rcases fit_kinds hf with hk | hk | hk
  ·rw [fit_piece hk] at hf; simp at hf; rw [hf.1.2, hf.2]; simp
  ·rw [fit_file hk] at hf; simp at hf; rw [hf.1.1.2]; have := hf.1.2; simp; omega
  ·rw [fit_dir hk] at hf; simp at hf; rw [hf.1.1.2]; have := hf.1.2; simp; omega
theorem allK_len : ∀ (O : List Ob), (allK O).length ≤ 1100 * O.length
 | [] => Nat.le_refl _
 | y :: O => by
  have h := allK_len O
  have h2 := kidsY_len y
  show (kidsY y ++ allK O).length ≤ _
  rw [List.length_append, List.length_cons]; omega
theorem reach_all {O : List Ob} (hr : RiseO O) {F : List Txt} {t : Txt} (h : ReachO O F t) : t ∈ F ++ allK O := by
 cases h with
 | start h1 _ => exact List.mem_append_left _ h1
 | kid h1 h2 =>
  refine List.mem_append_right _ ?_
  unfold kidsO nodeO at h2
  rename_i s
  cases hg : getO O s with
  | none => rw [hg] at h2; cases h2
  | some y =>
   rw [hg] at h2
   refine List.mem_flatMap.2 ⟨y, ((getO_some hr).1 hg).1, ?_⟩
   unfold kidsY
   exact h2
theorem RetReach.ex {O : List Ob} {F : List Txt} {w w' : World} {e : Ending} (h : RetReach O F w e w') : ∃ a cap M c, e = .returned (.tuple #[.slice a (strsOf M).length cap, .bool c]) ∧ OwnTxt w w' (.slice a (strsOf M).length cap) M ∧ Rises M ∧ (∀ t, t ∈ M ↔ ReachO O F t) ∧ (c = true ↔ WholeO O F) ∧ Below w.heap.size w w' := by
 obtain ⟨v, M, c, h1, h2, h3⟩ := h
 obtain ⟨_, a, cap, hv, _, _⟩ := h2.strs
 subst hv
 exact ⟨a, cap, M, c, h1, h2, h3⟩
def OneF (w0 : World) (mn av mx : Int) (W : World) : Prop := Row W w0.heap.size #[.int .i64 mn, .int .i64 av, .int .i64 mx] 39 ∧ Below w0.heap.size w0 W
theorem OneF.on {w0 W W' : World} {mn av mx : Int} (h : OneF w0 mn av mx W) (hb : Below W.heap.size W W') : OneF w0 mn av mx W' := ⟨h.1.step hb, below_step h.2 hb⟩
theorem OneF.cells {w0 W : World} {mn av mx : Int} (h : OneF w0 mn av mx W) : W.cell? ⟨w0.heap.size, 0, none⟩ = some (.int .i64 mn) ∧ W.cell? ⟨w0.heap.size, 1, none⟩ = some (.int .i64 av) ∧ W.cell? ⟨w0.heap.size, 2, none⟩ = some (.int .i64 mx) := by
 have g0 := h.1.cell 0; have g1 := h.1.cell 1; have g2 := h.1.cell 2
 simp only [List.getElem?_toArray, List.getElem?_cons_zero, List.getElem?_cons_succ] at g0 g1 g2
 exact ⟨g0, g1, g2⟩
theorem oneF_new (w0 : World) (mn av mx : Int) : OneF w0 mn av mx (w0.alloc (.cells #[.int .i64 mn, .int .i64 av, .int .i64 mx] 39)) := ⟨Row.made _ _ _, (Below.refl _ _).alloc (Nat.le_refl _) _⟩
structure FewF (m a b x : Nat) (I : List It) : Prop where
 fit : FitAt m a x b
 rdy : ReadyT (cutN m b x) I
 p400 : ∀ y ∈ I, y.p.size ≤ 400
 len : I.length ≤ 70
theorem fewF_at {mn av mx : Int} {I : List It} (h : fewTB mn av mx I = true) : ∃ m a b x : Nat, mn = m ∧ av = a ∧ mx = x ∧ FewF m a b x I := by
 obtain ⟨h70, _, h400, m, a, x, b, h1, h2, h3, hF, hR⟩ := fewTB_iff.1 h
 exact ⟨m, a, b, x, h1, h2, h3, hF, hR, h400, h70⟩
section
variable {m a b x : Nat} {I : List It}
theorem FewF.hs (h : FewF m a b x I) : ∀ y ∈ I, y.p.size ≤ 100000 ∧ y.c.size ≤ 100000 := fun y hy =>
 ⟨Nat.le_trans (h.p400 y hy) (by decide), Nat.le_trans (h.rdy.fit.data y hy) (by decide)⟩
theorem FewF.sl (h : FewF m a b x I) : (seqT (cutN m b x) I).length ≤ 70000 := seqT_len h.rdy
theorem FewF.rBuild (h : FewF m a b x I) {iv : Value} {w : World} (hi : IsItems w iv I) :
  Calls Tryz.prog 28 #[pV m a x, iv] w (RetKO (keyN (topT (cutN m b x) I)) (objsT (cutN m b x) I) w) :=
 rBuild_any m a b x h.fit iv I w hi h.rdy.fit.path h.hs (Nat.le_trans h.len (by decide)) (Nat.le_trans h.sl (by decide))
theorem FewF.rise (h : FewF m a b x I) : RiseO (objsT (cutN m b x) I) := (objs_fit _ _).1
theorem FewF.many (h : FewF m a b x I) : (objsT (cutN m b x) I).length ≤ 70000 := by
 have h1 := (putsN_len [] (seqT (cutN m b x) I)).2
 have := h.sl
 have h2 : (objsT (cutN m b x) I).length ≤ ([] : List Ob).length + (seqT (cutN m b x) I).length := h1
 simp at h2; omega
theorem FewF.bytes (h : FewF m a b x I) : ∀ y ∈ objsT (cutN m b x) I, y.r.size ≤ 60000 := fun y hy => by
 obtain ⟨n, hn, rfl⟩ := objs_mem hy
 have hf := seqT_fit h.rdy n hn
 have := wrL_len hf
 rw [Lib.size_eq]
 have e : (obN n).r.data.toList = wrN n := obN_u n
 rw [e, wrN_fit hf]; omega
theorem FewF.reach (h : FewF m a b x I) : ∀ t, ReachO (objsT (cutN m b x) I) [keyN (topT (cutN m b x) I)] t → t ∈ (seqT (cutN m b x) I).map keyN := by
 intro t ht
 induction ht with
 | start h1 _ => exact List.mem_map.2 ⟨_, topT_mem _ I, (List.mem_singleton.1 h1).symm⟩
 | kid _ h2 _ =>
  unfold kidsO nodeO at h2
  rename_i s u _ _
  cases hg : getO (objsT (cutN m b x) I) s with
  | none => rw [hg] at h2; cases h2
  | some y =>
   rw [hg] at h2
   obtain ⟨n, hn, rfl⟩ := objs_mem ((getO_some h.rise).1 hg).1
   have hf := seqT_fit h.rdy n hn
   simp only [Option.bind_some, obN_u, wrN_fit hf, readN_wr hf] at h2
   obtain ⟨k1, k2⟩ := kids_in 9 [] n hn
   rcases List.mem_append.1 h2 with h2 | h2
   ·obtain ⟨p, hp, rfl⟩ := List.mem_map.1 h2
    obtain ⟨m', hm, e⟩ := k1 p hp
    exact List.mem_map.2 ⟨m', hm, e⟩
   ·obtain ⟨p, hp, rfl⟩ := List.mem_map.1 h2
    obtain ⟨m', hm, e⟩ := k2 p hp
    exact List.mem_map.2 ⟨m', hm, e⟩
end
end Go.Proofs.YtokknppjeckppaaGreatDoor
set_option linter.unusedVariables false
namespace Go.Proofs.YtokknppjeckppaaGreatDoor
def exIt : It := ⟨⟨#[97]⟩, false, false, ⟨#[120]⟩⟩
def exN1 : Nd := ⟨1, ⟨#[120]⟩, [], []⟩
def exN2 : Nd := ⟨2, ⟨#[]⟩, [⟨⟨exK1.toArray⟩, 1⟩], []⟩
def exN3 : Nd := ⟨3, ⟨#[]⟩, [], [⟨⟨#[97]⟩, 2, false, ⟨exK2.toArray⟩⟩]⟩
theorem ex_fit1 : fitN exN1 = true := by decide +kernel
theorem ex_fit2 : fitN exN2 = true := by decide +kernel
theorem ex_fit3 : fitN exN3 = true := by decide +kernel
theorem ex_key1 : keyN exN1 = exK1 := by
 rw [keyN_fit ex_fit1, show wrL exN1 = [1, 120] by decide +kernel, ex_sum1]
theorem ex_key2 : keyN exN2 = exK2 := by
 rw [keyN_fit ex_fit2, show wrL exN2 = [2, 1] ++ exK1 ++ [1] by decide +kernel, ex_sum2]
theorem ex_key3 : keyN exN3 = exK3 := by
 rw [keyN_fit ex_fit3, show wrL exN3 = [3, 1, 1, 97, 2] ++ exK2 by decide +kernel, ex_sum3]
theorem ex_pcs : pcs (cutN 2 2 8) [120] = [[120]] := by decide +kernel
theorem ex_piece_Cty : pieceN [120] = exN1 := rfl
theorem ex_file_Cty : fileN (cutN 2 2 8) [120] = exN2 := by
 unfold fileN
 rw [ex_pcs]
 show (⟨2, ⟨#[]⟩, [partP [120]], []⟩ : Nd) = _
 unfold partP
 rw [ex_piece_Cty, ex_key1]
 rfl
theorem ex_in : inD [exIt] [] = [exIt] := by
 unfold inD
 rw [List.filter_cons_of_pos (by decide +kernel), List.filter_nil]
theorem ex_last : lastN exIt.t = [97] := by decide +kernel
theorem ex_dir_Cty : dirN (cutN 2 2 8) [exIt] 9 [] = exN3 := by
 show (⟨3, ⟨#[]⟩, [], (inD [exIt] []).map fun x => entE x (keyN (if x.d then dirN (cutN 2 2 8) [exIt] 8 x.t else fileN (cutN 2 2 8) x.b))⟩ : Nd) = _
 rw [ex_in]
 show (⟨3, ⟨#[]⟩, [], [entE exIt (keyN (fileN (cutN 2 2 8) [120]))]⟩ : Nd) = _
 rw [ex_file_Cty, ex_key2]
 unfold entE
 rw [ex_last]
 rfl
theorem ex_seq_Cty : seqT (cutN 2 2 8) [exIt] = [exN1, exN2, exN3] := by
 show ((inD [exIt] []).flatMap fun x => if x.d then seqD (cutN 2 2 8) [exIt] 8 x.t else seqF (cutN 2 2 8) x.b) ++ [dirN (cutN 2 2 8) [exIt] 9 []] = _
 rw [ex_in, ex_dir_Cty]
 show seqF (cutN 2 2 8) [120] ++ [] ++ [exN3] = _
 unfold seqF
 rw [ex_pcs, ex_file_Cty]
 rfl
theorem ex_top_Cty : topT (cutN 2 2 8) [exIt] = exN3 := ex_dir_Cty
theorem fit248_Cty : FitAt (2 : Nat) (4 : Nat) (8 : Nat) 2 := ⟨by decide, by decide, by decide, by decide, by decide, by decide, by decide⟩
theorem ex_tfit : TFit [exIt] where
 len := by decide
 rise := List.pairwise_singleton _ _
 path x hx := by rw [List.mem_singleton.1 hx]; decide +kernel
 form x hx := by rw [List.mem_singleton.1 hx]; decide +kernel
 data x hx := by rw [List.mem_singleton.1 hx]; decide +kernel
 under x hx := by rw [List.mem_singleton.1 hx]; decide +kernel
 size := by decide +kernel
theorem ex_rdy : ReadyT (cutN 2 2 8) [exIt] := ⟨ex_tfit, cut_fit fit248_Cty, fun x hx => by
 rw [List.mem_singleton.1 hx]
 show (pcs (cutN 2 2 8) [120]).length ≤ 1024
 rw [ex_pcs]; decide⟩
theorem ex_few : FewF 2 4 2 8 [exIt] := ⟨fit248_Cty, ex_rdy, fun y hy => by rw [List.mem_singleton.1 hy]; decide +kernel, by decide⟩
def exO : List Ob := [⟨⟨exK1.toArray⟩, ⟨#[1, 120]⟩⟩, ⟨⟨exK2.toArray⟩, ⟨([2, 1] ++ exK1 ++ [1] : List UInt8).toArray⟩⟩, ⟨⟨exK3.toArray⟩, ⟨([3, 1, 1, 97, 2] ++ exK2 : List UInt8).toArray⟩⟩]
theorem ex_objs : objsT (cutN 2 2 8) [exIt] = exO := by
 unfold objsT
 rw [ex_seq_Cty]
 show addO (addO (addO [] (obN exN1)) (obN exN2)) (obN exN3) = _
 have e1 : obN exN1 = ⟨⟨exK1.toArray⟩, ⟨#[1, 120]⟩⟩ := by
  unfold obN
  rw [ex_key1, wrN_fit ex_fit1]
  rfl
 have e2 : obN exN2 = ⟨⟨exK2.toArray⟩, ⟨([2, 1] ++ exK1 ++ [1] : List UInt8).toArray⟩⟩ := by
  unfold obN
  rw [ex_key2, wrN_fit ex_fit2]
  rfl
 have e3 : obN exN3 = ⟨⟨exK3.toArray⟩, ⟨([3, 1, 1, 97, 2] ++ exK2 : List UInt8).toArray⟩⟩ := by
  unfold obN
  rw [ex_key3, wrN_fit ex_fit3]
  rfl
 rw [e1, e2, e3]
 rfl
theorem ex_ord : OrdO exO := by rw [← ex_objs]; exact ord_tree ex_rdy
theorem ex_get1 : getO exO exK1 = some ⟨⟨exK1.toArray⟩, ⟨#[1, 120]⟩⟩ := rfl
theorem ex_get2 : getO exO exK2 = some ⟨⟨exK2.toArray⟩, ⟨([2, 1] ++ exK1 ++ [1] : List UInt8).toArray⟩⟩ := rfl
theorem ex_get3 : getO exO exK3 = some ⟨⟨exK3.toArray⟩, ⟨([3, 1, 1, 97, 2] ++ exK2 : List UInt8).toArray⟩⟩ := rfl
theorem ex_kids1 : kidsO exO exK1 = [] := by
 unfold kidsO nodeO
 rw [ex_get1]
 show (match readN [1, 120] with | none => [] | some n => kidsN n) = _
 rw [show ([1, 120] : List UInt8) = wrL exN1 by decide +kernel, readN_wr ex_fit1]
 rfl
theorem ex_kids2 : kidsO exO exK2 = [exK1] := by
 unfold kidsO nodeO
 rw [ex_get2]
 show (match readN ([2, 1] ++ exK1 ++ [1]) with | none => [] | some n => kidsN n) = _
 rw [show ([2, 1] ++ exK1 ++ [1] : List UInt8) = wrL exN2 by decide +kernel, readN_wr ex_fit2]
 rfl
theorem ex_kids3 : kidsO exO exK3 = [exK2] := by
 unfold kidsO nodeO
 rw [ex_get3]
 show (match readN ([3, 1, 1, 97, 2] ++ exK2) with | none => [] | some n => kidsN n) = _
 rw [show ([3, 1, 1, 97, 2] ++ exK2 : List UInt8) = wrL exN3 by decide +kernel, readN_wr ex_fit3]
 rfl
theorem ex_reach (t : Txt) : t ∈ [exK1, exK2, exK3] ↔ ReachO exO [exK3] t := by
 have r3 : ReachO exO [exK3] exK3 := .start (List.mem_singleton.2 rfl) rfl
 have r2 : ReachO exO [exK3] exK2 := .kid r3 (by rw [ex_kids3]; exact List.mem_singleton.2 rfl)
 have r1 : ReachO exO [exK3] exK1 := .kid r2 (by rw [ex_kids2]; exact List.mem_singleton.2 rfl)
 constructor
 ·intro h
  simp only [List.mem_cons, List.not_mem_nil, or_false] at h
  rcases h with rfl | rfl | rfl
  ·exact r1
  ·exact r2
  ·exact r3
 ·intro h
  simp only [List.mem_cons, List.not_mem_nil, or_false]
  induction h with
  | start h1 _ => exact .inr (.inr (List.mem_singleton.1 h1))
  | kid _ h2 ih =>
   rcases ih with rfl | rfl | rfl
   ·rw [ex_kids1] at h2; cases h2
   ·rw [ex_kids2] at h2; exact .inl (List.mem_singleton.1 h2)
   ·rw [ex_kids3] at h2; exact .inr (.inl (List.mem_singleton.1 h2))
theorem ex_nodup : [exK1, exK2, exK3].Nodup := by decide +kernel
theorem ex_whole : WholeO exO [exK3] := ex_ord.whole fun r hr _ => by rw [List.mem_singleton.1 hr, ex_get3]; rfl
theorem ex_top32 : exK3.length = 32 := rfl
theorem ex_counts {C : List Ct} (h : CountsOf exO [exK3] C) : C.length = 3 ∧ nC C exK3 = 1 := by
 constructor
 ·have h1 := countsOf_len h (U := [exK1, exK2, exK3]) fun t ht => (ex_reach t).2 ht
  have h2 := nodup_len (P := [exK1, exK2, exK3]) (B := C.map Ct.t) ex_nodup fun t ht => (countsOf_mem h).2 ((ex_reach t).1 ht)
  rw [List.length_map] at h2
  simp only [List.length_cons, List.length_nil] at h1 h2
  omega
 ·obtain ⟨h1, A, h2, h3⟩ := h
  rw [h3]
  have e : nmO exO A exK3 = 0 := by
   refine Nat.eq_zero_of_not_pos fun hp => ?_
   obtain ⟨j, hj, hk⟩ := nm_pos.1 hp
   have := (ex_reach j).2 ((h2.2 j).1 hj)
   simp only [List.mem_cons, List.not_mem_nil, or_false] at this
   rcases this with rfl | rfl | rfl
   ·rw [ex_kids1] at hk; cases hk
   ·rw [ex_kids2] at hk
    exact absurd (List.mem_singleton.1 hk) (by decide +kernel)
   ·rw [ex_kids3] at hk
    exact absurd (List.mem_singleton.1 hk) (by decide +kernel)
  unfold ofF
  rw [e, keysR_count, if_pos ex_top32, List.count_singleton_self]
  rfl
theorem ex_minus {C C' : List Ct} {ev : Int} (h : CountsOf exO [exK3] C) (hm : MinusRes exO C exK3 C' ev) : ev = 0 ∧ C' = [] := by
 obtain ⟨h1, h2⟩ := minusRes_counts (R := []) h (oneMore_cons [] exK3) ex_top32 ex_ord.noRing hm
 exact ⟨h1, countsOf_one h2 (countsOf_nil exO)⟩
end Go.Proofs.YtokknppjeckppaaGreatDoor
set_option linter.unusedVariables false
namespace Go.Proofs.YtokknppjeckppaaGreatDoor
open Go.RowKit
attribute [local go_sem] Oper.semAt_some
def fewQ (mn av mx : Int) (I : List It) : Prop := I.length ≤ 70 ∧ sizeT I ≤ 3000 ∧ (∀ x ∈ I, x.p.size ≤ 400) ∧ RdyAt mn av mx I
noncomputable def fewQB (mn av mx : Int) (I : List It) : Bool := @decide (fewQ mn av mx I) (Classical.propDecidable _)
theorem fewQB_yes {mn av mx : Int} {I : List It} (h : fewQ mn av mx I) : fewQB mn av mx I = true := @decide_eq_true _ (Classical.propDecidable _) h
theorem fewQB_no {mn av mx : Int} {I : List It} (h : ¬ fewQ mn av mx I) : fewQB mn av mx I = false := @decide_eq_false _ (Classical.propDecidable _) h
theorem fewQB_iff {mn av mx : Int} {I : List It} : fewQB mn av mx I = true ↔ fewQ mn av mx I := ⟨fun h => @of_decide_eq_true _ (Classical.propDecidable _) h, fewQB_yes⟩
theorem fewQ_T {mn av mx : Int} {I : List It} (h : fewQB mn av mx I = true) : fewTB mn av mx I = true := by
 obtain ⟨h1, h2, h3, h4⟩ := fewQB_iff.1 h
 exact fewTB_yes ⟨h1, by omega, h3, h4⟩
set_option maxRecDepth 100000 in
set_option maxHeartbeats 8000000 in
theorem small14_any (v : Value) (L : List Ob) (w : World) (h : IsObs w v L) (hz : ∀ x ∈ L, x.r.size ≤ 281474976710656) :
  Calls Tryz.prog 8 #[v] w fun e w' => e = .returned (.bool (small13B L)) ∧ Below w.heap.size w w' := by
 have HI := Lib.hid h
 have HZ := Lib.hid hz
 obtain ⟨hm, a, cap, rfl, _, _⟩ := h
 have hmm : L.length ≤ 9223372036854775807 := by unfold maxLen at hm; omega
 clear hm hz
 by_cases h3 : L.length ≤ 120
 ·have q3 : decide ((120 : Int) < (L.length : Int)) = false := by simp; omega
  go_enter Tryz.func8, Tryz.ntmps8
  go_wp2
  go_loopw [3, 11] (fun n i wr => ∃ k s : Nat, k ≤ L.length ∧ i = .int .i64 k ∧ n = .int .i64 s ∧ s = sizeO (L.take k) ∧ s ≤ 20000 ∧ (∀ x ∈ L.take k, x.k.size ≤ 100) ∧ Below w.heap.size w wr) (fun _ i _ => L.length - (intOf i).toNat)
  case atStart => exact ⟨0, 0, Nat.zero_le _, rfl, rfl, rfl, by omega, fun _ h => (by simp at h), Below.refl _ _⟩
  case round =>
   obtain ⟨k, s, hk, rfl, rfl, hs, hs2, hp, hB⟩ := hrel
   have HS := Lib.hid hs; have HP := Lib.hid hp
   clear hs hp
   by_cases hlt : k < L.length
   ·obtain ⟨_, _, _, e, _, hc⟩ := HI.out.stays hB
    cases e
    obtain ⟨b1, off, rfl, hbl, g⟩ := hc (by omega)
    obtain ⟨c0, c1⟩ := g k hlt
    clear g hc
    have hbk : decide ((k : Int) < (L.length : Int)) = true := by simpa using (show (k : Int) < L.length by omega)
    have hcut := sizeO_step hlt
    have hsub := sizeO_take L (k + 1)
    have hmem : L[k]'hlt ∈ L := List.getElem_mem hlt
    have htk : L.take (k + 1) = L.take k ++ [L[k]'hlt] := List.take_succ_eq_append_getElem hlt
    obtain ⟨x, hx⟩ : ∃ x, L[k]'hlt = x := ⟨_, rfl⟩
    rw [hx] at c0 c1 hcut hmem htk
    have hba := (Below.refl wr.heap.size wr).alloc (Nat.le_refl _) (.cells #[.string x.k, .string x.r] 61)
    have hB2 := below_step hB hba
    have HCUT := Lib.hid hcut; have HSUB := Lib.hid hsub; have HMEM := Lib.hid hmem; have HTK := Lib.hid htk
    clear hx hcut hsub hmem htk hba
    have hbig := HZ.out x HMEM.out
    have hsum : IntKind.i64.wrap ((s : Int) + (x.r.size : Int)) = (s : Int) + (x.r.size : Int) := IntWalk.i64_in _ (by omega)
    by_cases h6 : 20000 < s + x.r.size
    ·have HN : Hid (small13B L = false) := Lib.hid (small13_no fun h => by have := h.2.1; have := HSUB.out; have := HCUT.out; have := HS.out; omega)
     have q6 : decide ((20000 : Int) < (s : Int) + (x.r.size : Int)) = true := decide_eq_true (by omega)
     go_wp2
     go_ret
     exact ⟨by rw [HN.out]; rfl, hB2⟩
    ·have q6 : decide ((20000 : Int) < (s : Int) + (x.r.size : Int)) = false := decide_eq_false (by omega)
     by_cases h100 : x.k.size ≤ 100
     ·have q4 : decide ((100 : Int) < (x.k.size : Int)) = false := by simp; omega
      go_wp2
      go_roundw
      case rel => exact ⟨k + 1, s + x.r.size, by omega, by go_num, by go_num, by rw [HCUT.out, ← HS.out], by omega, fun u hu => by
       rw [HTK.out] at hu
       rcases List.mem_append.1 hu with h | h
       ·exact HP.out u h
       ·rw [List.mem_singleton.1 h]; exact h100, hB2⟩
      case measure => simp [intOf]; omega
     ·have q4 : decide ((100 : Int) < (x.k.size : Int)) = true := by simp; omega
      have HN : Hid (small13B L = false) := Lib.hid (small13_no fun h => h100 (h.2.2.1 x HMEM.out))
      go_wp2
      go_ret
      exact ⟨by rw [HN.out]; rfl, hB2⟩
   ·have hge : decide ((k : Int) < (L.length : Int)) = false := by simp; omega
    have htk : L.take k = L := List.take_of_length_le (by omega)
    have hs1 := HS.out
    have hp1 := HP.out
    rw [htk] at hs1 hp1
    have FT := Lib.hid (rFitO_any (.slice a L.length cap) L wr (HI.out.stays hB))
    have HE : Hid (fitO L = small13B L) := Lib.hid (by
     cases hf : fitO L
     ·exact (small13_no fun h => by rw [fitO_yes h.2.2.2] at hf; cases hf).symm
     ·exact (small13_yes ⟨h3, by omega, hp1, fitO_iff.1 hf⟩).symm)
    rw [HE.out] at FT
    have HB := Lib.hid hB
    clear htk hs1 hp1 hB
    go_wp2_with fail
    refine FT.out.mono ?_
    rintro e w8 ⟨rfl, hb⟩
    go_wp2
    go_ret
    exact ⟨rfl, below_step HB.out hb⟩
 ·have q3 : decide ((120 : Int) < (L.length : Int)) = true := by simp; omega
  have HN : Hid (small13B L = false) := Lib.hid (small13_no fun h => h3 h.1)
  go_enter Tryz.func8, Tryz.ntmps8
  go_wp2
  go_ret
  exact ⟨by rw [HN.out]; rfl, Below.refl _ _⟩
set_option maxRecDepth 100000 in
set_option maxHeartbeats 8000000 in
theorem few14_any (mn av mx : Int) (iv : Value) (I : List It) (w : World) (hi : IsItems w iv I) (hz : ∀ x ∈ I, x.c.size ≤ 281474976710656) :
  Calls Tryz.prog 21 #[pV mn av mx, iv] w fun e w' => e = .returned (.bool (fewQB mn av mx I)) ∧ Below w.heap.size w w' := by
 obtain ⟨V, hV⟩ : ∃ V, V = w.alloc (.cells #[.int .i64 mn, .int .i64 av, .int .i64 mx] 39) := ⟨_, rfl⟩
 have hbV : Below w.heap.size w V := by rw [hV]; exact (Below.refl _ _).alloc (Nat.le_refl _) _
 have hR0 : Row V w.heap.size #[.int .i64 mn, .int .i64 av, .int .i64 mx] 39 := by rw [hV]; exact Row.made _ _ _
 have HV := Lib.hid hV; have HR0 := Lib.hid hR0; have HB0 := Lib.hid hbV
 have HI := Lib.hid (hi.stays hbV)
 have CR := Lib.hid (fun W (hb : Below V.heap.size V W) (hf : fewB I = true) => rReady_any mn av mx iv I W (HI.out.stays hb) hf)
 have HZ := Lib.hid hz
 obtain ⟨hm, a1, cap1, rfl, _, _⟩ := hi
 have hmm : I.length ≤ 9223372036854775807 := by unfold maxLen at hm; omega
 clear hV hbV hR0 hm hz
 by_cases h70 : I.length ≤ 70
 ·have q70 : decide ((70 : Int) < (I.length : Int)) = false := by simp; omega
  go_enter Tryz.func21, Tryz.ntmps21
  go_wp2_with fail
  rw [← HV.out]
  go_loopw [5, 13] (fun n i wr => ∃ (k s : Nat), k ≤ I.length ∧ i = .int .i64 k ∧ n = .int .i64 s ∧ s = sizeT (I.take k) ∧ s ≤ 3000 ∧ (∀ x ∈ I.take k, x.p.size ≤ 400) ∧ Below V.heap.size V wr) (fun _ i _ => I.length - (intOf i).toNat)
  case atStart => exact ⟨0, 0, Nat.zero_le _, rfl, rfl, rfl, by omega, fun _ h => (by simp at h), Below.refl _ _⟩
  case round =>
   obtain ⟨k, s, hk, rfl, rfl, hs, hs6, hp, hB⟩ := hrel
   have HS := Lib.hid hs; have HP := Lib.hid hp
   clear hs hp
   by_cases hlt : k < I.length
   ·obtain ⟨_, _, _, e, _, hc⟩ := HI.out.stays hB
    cases e
    obtain ⟨b1, off, rfl, hbl, g⟩ := hc (by omega)
    obtain ⟨c0, c1, c2, c3⟩ := g k hlt
    clear g hc
    have hbk : decide ((k : Int) < (I.length : Int)) = true := by simpa using (show (k : Int) < I.length by omega)
    have hcut := fewer_len I k hlt
    have hsub := sizeT_take I (k + 1)
    have hmem : I[k]'hlt ∈ I := List.getElem_mem hlt
    have htk : I.take (k + 1) = I.take k ++ [I[k]'hlt] := List.take_succ_eq_append_getElem hlt
    obtain ⟨x, hx⟩ : ∃ x, I[k]'hlt = x := ⟨_, rfl⟩
    rw [hx] at c0 c1 c2 c3 hcut hmem htk
    have hba := (Below.refl wr.heap.size wr).alloc (Nat.le_refl _) (.cells #[.string x.p, .bool x.d, .bool x.e, .string x.c] 65)
    have hB2 := below_step hB hba
    have HCUT := Lib.hid hcut; have HSUB := Lib.hid hsub; have HMEM := Lib.hid hmem; have HTK := Lib.hid htk
    clear hx hcut hsub hmem htk hba
    by_cases h6 : 3000 < s + x.c.size
    ·have HN : Hid (fewQB mn av mx I = false) := Lib.hid (fewQB_no fun h => by have := h.2.1; have := HSUB.out; have := HCUT.out; have := HS.out; omega)
     have q6 : decide ((3000 : Int) < (s : Int) + (x.c.size : Int)) = true := decide_eq_true (by omega)
     have hbig := HZ.out x HMEM.out
     have hsum : IntKind.i64.wrap ((s : Int) + (x.c.size : Int)) = (s : Int) + (x.c.size : Int) := IntWalk.i64_in _ (by omega)
     go_wp2
     go_ret
     exact ⟨by rw [HN.out]; rfl, below_step HB0.out hB2⟩
    ·have q6 : decide ((3000 : Int) < (s : Int) + (x.c.size : Int)) = false := decide_eq_false (by omega)
     have hsum : IntKind.i64.wrap ((s : Int) + (x.c.size : Int)) = (s : Int) + (x.c.size : Int) := IntWalk.i64_in _ (by omega)
     by_cases h400 : x.p.size ≤ 400
     ·have q4 : decide ((400 : Int) < (x.p.size : Int)) = false := by simp; omega
      go_wp2
      go_roundw
      case rel => exact ⟨k + 1, s + x.c.size, by omega, by go_num, by go_num, by rw [HCUT.out, ← HS.out], by omega, fun u hu => by
       rw [HTK.out] at hu
       rcases List.mem_append.1 hu with h | h
       ·exact HP.out u h
       ·rw [List.mem_singleton.1 h]; exact h400, hB2⟩
      case measure => simp [intOf]; omega
     ·have q4 : decide ((400 : Int) < (x.p.size : Int)) = true := by simp; omega
      have HN : Hid (fewQB mn av mx I = false) := Lib.hid (fewQB_no fun h => h400 (h.2.2.1 x HMEM.out))
      go_wp2
      go_ret
      exact ⟨by rw [HN.out]; rfl, below_step HB0.out hB2⟩
   ·have hge : decide ((k : Int) < (I.length : Int)) = false := by simp; omega
    have htk : I.take k = I := List.take_of_length_le (by omega)
    have hs1 := HS.out
    have hp1 := HP.out
    rw [htk] at hs1 hp1
    have hfb : fewB I = true := few_mk h70 (fun x hx => ⟨hp1 x hx, by
     have : x.c.size ≤ sizeT I := sum_mem (f := fun y : It => y.c.size) hx
     omega⟩)
    have HF : Hid (rdyB mn av mx I = fewQB mn av mx I) := Lib.hid (by
     cases hr : rdyB mn av mx I
     ·exact (fewQB_no fun h => by rw [rdyB_yes h.2.2.2] at hr; cases hr).symm
     ·exact (fewQB_yes ⟨h70, by omega, hp1, rdyB_iff.1 hr⟩).symm)
    have C := Lib.hid (CR.out wr hB hfb)
    rw [HF.out] at C
    have hR2 := HR0.out.step hB
    have p0 := hR2.cell 0; have p1 := hR2.cell 1; have p2 := hR2.cell 2
    simp only [List.getElem?_toArray, List.getElem?_cons_zero, List.getElem?_cons_succ] at p0 p1 p2
    clear hs1 hp1 hfb htk hR2
    go_wp2_with fail
    refine C.out.mono ?_
    rintro e w4 ⟨rfl, hb4⟩
    go_wp2
    go_ret
    exact ⟨rfl, below_step HB0.out (below_step hB hb4)⟩
 ·have q70 : decide ((70 : Int) < (I.length : Int)) = true := by simp; omega
  have HN : Hid (fewQB mn av mx I = false) := Lib.hid (fewQB_no fun h => h70 h.1)
  go_enter Tryz.func21, Tryz.ntmps21
  go_wp2_with fail
  rw [← HV.out]
  go_wp2
  go_ret
  exact ⟨by rw [HN.out]; rfl, HB0.out⟩
theorem items_one_Ctz (w : World) (x : It) (t : TypeId) : IsItems (w.alloc (.cells #[.string x.p, .bool x.d, .bool x.e, .string x.c] t)) (.slice (some ⟨w.heap.size, 0, none⟩) 1 1) [x] :=
 ⟨by unfold maxLen; simp, _, 1, rfl, ⟨fun h => (by cases h), Nat.le_refl _⟩, fun _ => ⟨_, 0, rfl, by simp, fun i hi => by
  obtain rfl : i = 0 := by simp at hi; exact hi
  exact ⟨by simp, by simp, by simp, by simp⟩⟩⟩
theorem exO_size : ∀ y ∈ exO, y.r.size ≤ 1000000 := fun y hy => by
 have := ex_few.bytes y (by rw [ex_objs]; exact hy)
 omega
set_option maxRecDepth 100000 in
set_option maxHeartbeats 8000000 in
theorem awake14_any (w : World) (hT : ErrT w) : Calls Tryz.prog 9 #[] w fun e w' => e = .returned (.bool true) ∧ Below w.heap.size w w' := by
 have hb0 : Below w.heap.size w (w.alloc (.cells #[.string ⟨#[97]⟩, .bool false, .bool false, .string ⟨#[120]⟩] 65)) := (Below.refl _ _).alloc (Nat.le_refl _) _
 have CB0 := ex_few.rBuild (items_one_Ctz w exIt 65)
 rw [ex_top_Cty, ex_key3, ex_objs] at CB0
 have CB : Calls Tryz.prog 28 #[.agg #[.int .i64 2, .int .i64 4, .int .i64 8], .slice (some ⟨w.heap.size, 0, none⟩) 1 1] (w.alloc (.cells #[.string ⟨#[97]⟩, .bool false, .bool false, .string ⟨#[120]⟩] 65)) fun e w' => ∃ v, e = .returned (.tuple #[.string ⟨exK3.toArray⟩, v]) ∧ IsObs w' v exO ∧ Below (w.alloc (.cells #[.string ⟨#[97]⟩, .bool false, .bool false, .string ⟨#[120]⟩] 65)).heap.size (w.alloc (.cells #[.string ⟨#[97]⟩, .bool false, .bool false, .string ⟨#[120]⟩] 65)) w' := CB0
 have HCB := Lib.hid CB
 have HT := Lib.hid hT; have HB0 := Lib.hid hb0
 have HR := Lib.hid ex_ord.fit.1
 have HZ := Lib.hid exO_size
 have HL : Hid (exO.length = 3) := Lib.hid rfl
 have HU : Hid (∀ t, ReachO exO [exK3] t → t ∈ [exK1, exK2, exK3]) := Lib.hid (fun t h => (ex_reach t).2 h)
 have H32 : Hid (∀ t ∈ [exK1, exK2, exK3], t.length = 32) := Lib.hid (fun t h => reach_len ((ex_reach t).1 h))
 have HW := Lib.hid ex_whole
 have HEC := Lib.hid (fun C h => ex_counts (C := C) h); have HEM := Lib.hid (fun C C' ev h h2 => ex_minus (C := C) (C' := C') (ev := ev) h h2)
 obtain ⟨O, hO⟩ : ∃ O, O = exO := ⟨_, rfl⟩
 obtain ⟨K, hK⟩ : ∃ K, K = exK3 := ⟨_, rfl⟩
 obtain ⟨U, hU⟩ : ∃ U, U = [exK1, exK2, exK3] := ⟨_, rfl⟩
 have HUL : Hid (U.length = 3) := Lib.hid (by rw [hU]; rfl)
 rw [← hU] at HU H32
 rw [← hO] at HCB HR HZ HL HU HW HEC HEM; rw [← hK] at HCB HU HW HEC HEM
 obtain ⟨k, hk⟩ : ∃ k : ByteArray, k = ⟨K.toArray⟩ := ⟨_, rfl⟩
 have HK : Hid (k.data.toList = K) := Lib.hid (by rw [hk])
 rw [← hk] at HCB
 have HTX : Hid (txts [k] = [K]) := Lib.hid (by show [k.data.toList] = [K]; rw [HK.out])
 clear hT hb0 CB CB0 hO hK hk hU
 go_enter Tryz.func9, Tryz.ntmps9
 go_wp2_with fail
 refine HCB.out.mono ?_
 rintro e w1 ⟨v, rfl, ho, hb1⟩
 have HB1 := Lib.hid (below_step HB0.out hb1)
 have HO1 := Lib.hid ho
 obtain ⟨_, a, cap, hv, _, _⟩ := ho
 rw [HL.out] at hv
 subst hv
 have hb2 : Below w1.heap.size w1 (w1.alloc (.cells #[.string k] 9)) := (Below.refl _ _).alloc (Nat.le_refl _) _
 have CO := pOf_any (.slice a 3 cap) (.slice (some ⟨w1.heap.size, 0, none⟩) 1 1) O [k] (w1.alloc (.cells #[.string k] 9)) (HO1.out.stays hb2) HR.out (by rw [HL.out]; decide) HZ.out (HT.out.stays (below_step HB1.out hb2)) (by
  have := (own_one w1 k).strs; simpa [strsOf] using this) (by simp) U (by rw [HTX.out]; exact HU.out) H32.out (by rw [HUL.out]; decide)
 rw [HTX.out] at CO
 have HCO := Lib.hid CO
 have HB2 := Lib.hid (below_step HB1.out hb2); have HO2 := Lib.hid (HO1.out.stays hb2)
 clear hb1 hb2 CO
 go_wp2_with fail
 refine HCO.out.mono ?_
 rintro e w2 ⟨vc, C, b, rfl, hoc, hbw, _, hct, hb3⟩
 have hbt : b = true := hbw.2 HW.out
 subst hbt
 have HCT := Lib.hid (hct rfl)
 have HB3 := Lib.hid (below_step HB2.out hb3); have HO3 := Lib.hid (HO2.out.stays hb3); have HC3 := Lib.hid hoc.is
 obtain ⟨hc3, hc1⟩ := HEC.out C HCT.out
 have HC1 := Lib.hid hc1; have HC3L := Lib.hid hc3
 obtain ⟨_, ca, cc, hvc, _, _⟩ := hoc.is
 rw [hc3] at hvc
 subst hvc
 have CM := Lib.hid (pMinus_any (.slice ca 3 cc) (.slice a 3 cap) C O k w2 HO3.out HR.out (by rw [HL.out]; decide) HZ.out (HT.out.stays HB3.out) HC3.out HCT.out.1 (fun x hx => by
  have := countsOf_max HCT.out HU.out x hx
  rw [HUL.out] at this
  simp at this; omega) (countsOf_32 HCT.out) (by rw [HC3L.out]; decide))
 clear hbw hct hb3 hoc hc3 hc1
 go_wp2_with fail
 refine CM.out.mono ?_
 rintro e w3 ⟨vd, D, ev, rfl, hod, hmr, hb4⟩
 rw [HK.out] at hmr
 obtain ⟨rfl, rfl⟩ := HEM.out C D ev HCT.out hmr
 have HB4 := Lib.hid (below_step HB3.out hb4)
 obtain ⟨_, da, dc, hvd, _, _⟩ := hod.is
 have hvd2 : vd = .slice da 0 dc := hvd
 subst hvd2
 have CN := pN_any (.slice ca 3 cc) C k w3 (HC3.out.stays hb4)
 rw [HK.out, HC1.out] at CN
 have HCN := Lib.hid CN
 clear hod hmr hb4 hvd CN
 go_wp2_with fail
 refine HCN.out.mono ?_
 rintro e w4 ⟨rfl, hb5⟩
 have HB5 := Lib.hid (below_step HB4.out hb5)
 clear hb5
 go_wp2
 go_ret
 exact ⟨rfl, HB5.out⟩
theorem both_take {X Y : List Ob} {k : Nat} (hk : k < Y.length) : bothO X (Y.take (k + 1)) = addO (bothO X (Y.take k)) Y[k] := by
 unfold bothO
 rw [List.take_succ_eq_append_getElem hk, List.foldl_append]; rfl
theorem addO_len_Ctz (L : List Ob) (x : Ob) : (addO L x).length ≤ L.length + 1 := by
 unfold addO
 split
 ·omega
 ·unfold insO
  rw [List.length_append, List.length_cons]
  have := congrArg List.length (List.takeWhile_append_dropWhile (p := fun y : Ob => !decide (x.t < y.t)) (l := L))
  rw [List.length_append] at this
  omega
theorem both_len : ∀ (Y X : List Ob), (bothO X Y).length ≤ X.length + Y.length
 | [], X => by simp [bothO]
 | y :: Y, X => by
  have h1 := both_len Y (addO X y)
  have h2 := addO_len_Ctz X y
  have e : bothO X (y :: Y) = bothO (addO X y) Y := rfl
  rw [e, List.length_cons]; omega
set_option maxRecDepth 100000 in
set_option maxHeartbeats 8000000 in
theorem two_any (m a b x : Nat) (I J : List It) (iv jv : Value) (w : World) (hI : FewF m a b x I) (hJ : FewF m a b x J) (hi : IsItems w iv I) (hj : IsItems w jv J) :
  Calls Tryz.prog 22 #[pV m a x, iv, jv] w fun e w' => ∃ v, e = .returned (.tuple #[v, .string ⟨(keyN (topT (cutN m b x) I)).toArray⟩, .string ⟨(keyN (topT (cutN m b x) J)).toArray⟩]) ∧ IsObs w' v (bothO (objsT (cutN m b x) I) (objsT (cutN m b x) J)) ∧ Below w.heap.size w w' := by
 have hP0 := oneF_new w m a x
 obtain ⟨p0, p1, p2⟩ := hP0.cells
 have C1 := Lib.hid (hI.rBuild (hi.stays hP0.2))
 have C2 := Lib.hid (fun W (hb : Below w.heap.size w W) => hJ.rBuild (hj.stays hb))
 have HP0 := Lib.hid hP0
 have hXl := hI.many; have hYl := hJ.many
 obtain ⟨X, hX⟩ : ∃ X, X = objsT (cutN m b x) I := ⟨_, rfl⟩
 obtain ⟨Y, hY⟩ : ∃ Y, Y = objsT (cutN m b x) J := ⟨_, rfl⟩
 obtain ⟨A, hA⟩ : ∃ A : ByteArray, A = ⟨(keyN (topT (cutN m b x) I)).toArray⟩ := ⟨_, rfl⟩
 obtain ⟨B, hB⟩ : ∃ B : ByteArray, B = ⟨(keyN (topT (cutN m b x) J)).toArray⟩ := ⟨_, rfl⟩
 obtain ⟨K, hK⟩ : ∃ K, K = keyN (topT (cutN m b x) I) := ⟨_, rfl⟩
 obtain ⟨L, hL⟩ : ∃ L, L = keyN (topT (cutN m b x) J) := ⟨_, rfl⟩
 rw [← hX] at C1 hXl; rw [← hY] at C2 hYl; rw [← hX, ← hY]
 rw [← hK] at C1 hA ⊢; rw [← hL] at C2 hB ⊢
 have HA := Lib.hid hA; have HB := Lib.hid hB
 obtain ⟨_, ia, ic, hiv, _, _⟩ := hi
 obtain ⟨_, ja, jc, hjv, _, _⟩ := hj
 obtain ⟨zi, hzi⟩ : ∃ z, z = I.length := ⟨_, rfl⟩
 obtain ⟨zj, hzj⟩ : ∃ z, z = J.length := ⟨_, rfl⟩
 rw [← hzi] at hiv; rw [← hzj] at hjv
 subst hiv hjv
 obtain ⟨zy, hzy⟩ : ∃ z, z = Y.length := ⟨_, rfl⟩
 rw [← hzy] at hYl
 have HZY := Lib.hid hzy
 have HXL := Lib.hid hXl
 clear hI hJ hP0 hX hY hA hB hK hL hzi hzj hzy hXl
 go_enter Tryz.func22, Tryz.ntmps22
 go_wp2_with fail
 refine C1.out.mono ?_
 rintro e w1 ⟨v1, rfl, ho1, hb1⟩
 have hP1 := HP0.out.on hb1
 obtain ⟨g0, g1, g2⟩ := hP1.cells
 have hpl := hP1.1.lt
 have HP1 := Lib.hid hP1; have HO1 := Lib.hid ho1
 have C2a := Lib.hid (C2.out w1 hP1.2)
 obtain ⟨_, a1, c1, hv1, _, _⟩ := ho1
 obtain ⟨zx, hzx⟩ : ∃ z, z = X.length := ⟨_, rfl⟩
 rw [← hzx] at hv1
 subst hv1
 clear hP1 hb1 p0 p1 p2 hzx
 go_wp2_with fail
 refine C2a.out.mono ?_
 rintro e w2 ⟨v2, rfl, ho2, hb2⟩
 have HO2 := Lib.hid ho2; have HX2 := Lib.hid (HO1.out.stays hb2); have HB2 := Lib.hid (HP1.out.on hb2).2
 obtain ⟨_, a2, c2, hv2, _, _⟩ := ho2
 rw [← HZY.out] at hv2
 subst hv2
 clear hb2 g0 g1 g2
 go_wp2_with fail
 go_loopw [10, 29] (fun o i wr => ∃ (k : Nat) (u : Value), k ≤ zy ∧ i = .int .i64 k ∧ u = o ∧ IsObs wr u (bothO X (Y.take k)) ∧ Below w2.heap.size w2 wr) (fun _ i _ => zy - (intOf i).toNat)
 case atStart => exact ⟨0, _, Nat.zero_le _, rfl, rfl, by simpa [bothO] using HX2.out, Below.refl _ _⟩
 case round =>
  obtain ⟨k, u, hk, rfl, rfl, hu, hBw⟩ := hrel
  have HUU := Lib.hid hu; have HBW := Lib.hid hBw
  have hul : (bothO X (Y.take k)).length ≤ 900000 := by
   have h1 := both_len (Y.take k) X
   have h2 := HXL.out
   rw [List.length_take] at h1
   omega
  obtain ⟨_, ua, uc, huv, _, _⟩ := hu
  obtain ⟨zu, hzu⟩ : ∃ z, z = (bothO X (Y.take k)).length := ⟨_, rfl⟩
  rw [← hzu] at huv
  have HUL := Lib.hid hul
  subst huv
  by_cases hlt : k < zy
  ·have hky : k < Y.length := by have := HZY.out; omega
   obtain ⟨_, _, _, e, _, hc⟩ := HO2.out.stays hBw
   rw [← HZY.out] at e
   cases e
   obtain ⟨bb, off, rfl, hbl, g⟩ := hc (by omega)
   obtain ⟨d0, d1⟩ := g k hky
   have HST := Lib.hid (both_take (X := X) hky)
   obtain ⟨y, hy⟩ : ∃ y, y = Y[k] := ⟨_, rfl⟩
   rw [← hy] at d0 d1 HST
   have hbx : Below wr.heap.size wr (wr.alloc (.cells #[.string y.k, .string y.r] 61)) := (Below.refl _ _).alloc (Nat.le_refl _) _
   have CA := Lib.hid (rAdd_any (.slice ua zu uc) (bothO X (Y.take k)) y _ (HUU.out.stays hbx) HUL.out)
   have HBX := Lib.hid (below_step HBW.out hbx)
   have hbk : decide ((k : Int) < (zy : Int)) = true := by simpa using (show (k : Int) < zy by omega)
   clear hc g hy hbx hBw hky hul hzu
   go_wp2_with fail
   refine CA.out.mono ?_
   rintro e w4 ⟨v4, rfl, ho4, hb4, _⟩
   have HO4 := Lib.hid ho4; have HB4 := Lib.hid (below_step HBX.out hb4)
   clear ho4 hb4 d0 d1
   go_wp2
   go_roundw
   case rel => exact ⟨k + 1, v4, by omega, by go_num, rfl, by rw [HST.out]; exact HO4.out, HB4.out⟩
   case measure => simp [intOf]; omega
  ·have hall : Y.take k = Y := List.take_of_length_le (by have := HZY.out; omega)
   have hE := HUU.out
   rw [hall] at hE
   have HE := Lib.hid hE
   have HBE := Lib.hid (below_step HB2.out hBw)
   have hbk : decide ((k : Int) < (zy : Int)) = false := by simp; omega
   clear hall hE hBw hul hzu
   go_wp2
   refine bodyPost_ret (v := .tuple #[.slice ua zu uc, .string ⟨K.toArray⟩, .string ⟨L.toArray⟩]) (by simp [results, Tryz.results22, go_sem]) rfl ⟨_, rfl, HE.out, HBE.out⟩
end Go.Proofs.YtokknppjeckppaaGreatDoor

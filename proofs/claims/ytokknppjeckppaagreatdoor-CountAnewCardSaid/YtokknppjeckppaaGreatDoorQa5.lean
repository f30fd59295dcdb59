/-
  Texts put together: contracts and laws that this seat's proofs share.
-/
import Derived.Test.YtokknppjeckppaaGreatDoorQa4
import Derived.Test.YtokknppjeckppaaGreatDoorQa2
import Derived.Test.YtokknppjeckppaaGreatDoorQa3
import Derived.Maps.OwnOps
import Derived.Sort.KeysCollected
import Derived.Test.YtokknppjeckppaaGreatDoorSho
import Derived.Test.YtokknppjeckppaaGreatDoorQa1
import Derived.Shelf.SlIter.Sorted
import Derived.Shelf.Sort.Plain
import Derived.Shelf.Slices.In.SortNone
set_option linter.unusedVariables false
namespace Go.Proofs.YtokknppjeckppaaGreatDoor
open Go Go.RowKit Go.Maps Go.Sort
attribute [local go_sem] Oper.semAt_some
theorem Qk.on {B Bq Bm : Nat} {a b c : World} (h : Qk B Bq Bm a b) (k : Below b.heap.size b c) : Qk B Bq Bm a c := h.step k
def rchR (W1 : World) (i : Nat) (w w' : World) : Prop := Qk W1.heap.size (W1.heap.size + 1) W1.heap.size w w'
theorem calls_own {f : FuncId} {args : Array Value} {wz w : World} {M : List Txt} (hs : wz.heap.size ≤ w.heap.size) (h : Calls Tryz.prog f args w (RetOwn w M)) : Calls Tryz.prog f args w fun e w' => ∃ u, e = .returned u ∧ (OwnTxt wz w' u M ∧ Below w.heap.size w w') :=
 h.mono fun e w' ⟨v, h1, h2, h3⟩ => ⟨v, h1, h2.low_Ned hs, h3⟩
theorem calls_add {f : FuncId} {args : Array Value} {w : World} {A : World → Value → Prop} {K : World → Prop} (h : Calls Tryz.prog f args w fun e w' => e = .returned (.tuple #[]) ∧ ∃ v, A w' v ∧ K w') : Calls Tryz.prog f args w fun e w' => ∃ u, e = .returned u ∧ ((∃ v, A w' v) ∧ K w') :=
 h.mono fun e w' ⟨h1, v, h2, h3⟩ => ⟨_, h1, ⟨v, h2⟩, h3⟩
theorem sort_rises {Q : List Txt} (h : Q.Nodup) : Rises (Q.mergeSort fun x y => decide (x ≤ y)) := by
 have h1 := List.pairwise_mergeSort (le := fun x y : Txt => decide (x ≤ y)) t_le_trans t_le_total Q
 have h2 : (Q.mergeSort fun x y => decide (x ≤ y)).Nodup := (List.mergeSort_perm _ _).nodup_iff.2 h
 exact (h1.and h2).imp fun ⟨a, b⟩ => t_lt_of_le_ne (of_decide_eq_true a) b
theorem is_yes (s : ByteArray) (k : Int) (w : World) : Calls Tryz.prog 74 #[faultV s k, errK k] w fun e w' => e = .returned (.bool true) ∧ Below w.heap.size w w' := by
 have := is_fault s k k w
 rwa [beq_self_eq_true] at this
theorem is_no (s : ByteArray) {a b : Int} (h : a ≠ b) (w : World) : Calls Tryz.prog 74 #[faultV s a, errK b] w fun e w' => e = .returned (.bool false) ∧ Below w.heap.size w w' := by
 have := is_fault s a b w
 rwa [beq_eq_false_iff_ne.2 h] at this
theorem rises_nodup {l : List Txt} (h : Rises l) : l.Nodup := List.Pairwise.imp (fun {a b} (h : a < b) (e : a = b) => t_irrefl b (by rw [e] at h; exact h)) h
theorem RetLd.of_ok {n : Nd} {w w' : World} {e : Ending} (h : RetLd (.ok n) w e w') : ∃ pv ev, e = .returned (.tuple #[ndV n pv ev, .nilIface]) ∧ OwnP w.heap.size w' pv n.ps ∧ OwnE w.heap.size w' ev n.es ∧ Below w.heap.size w w' := by
 rcases h with ⟨m, pv, ev, h1, h2, h3, h4, h5⟩ | ⟨k, s, h1, _⟩
 ·cases h1; exact ⟨pv, ev, h2, h3, h4, h5⟩
 ·cases h1
theorem RetLd.of_err {k : Int} {w w' : World} {e : Ending} (h : RetLd (.error k) w e w') : ∃ s, e = .returned (.tuple #[zeroNV, faultV s k]) ∧ Below w.heap.size w w' := by
 rcases h with ⟨m, pv, ev, h1, _⟩ | ⟨k', s, h1, h2, h3, h4⟩
 ·cases h1
 ·cases h1; exact ⟨s, h3, h4⟩
theorem readE_node {O : List Ob} {t : Txt} {n : Nd} : readE O t = .ok n ↔ nodeO O t = some n := by
 unfold readE nodeO
 cases h : getO O t with
 | none => simp
 | some y =>
  cases h2 : readN y.u with
  | none => simp [h2]
  | some m => simp [h2]
theorem readE_err {O : List Ob} {t : Txt} {k : Int} (h : readE O t = .error k) : nodeO O t = none ∧ (k = 5 ∨ k = 2) := by
 unfold readE at h
 unfold nodeO
 cases h1 : getO O t with
 | none => rw [h1] at h; simp at h; exact ⟨rfl, .inl h.symm⟩
 | some y =>
  rw [h1] at h
  cases h2 : readN y.u with
  | none => simp [h2] at h; exact ⟨h2, .inr h.symm⟩
  | some m => simp [h2] at h
theorem kidsO_of {O : List Ob} {t : Txt} {n : Nd} (h : nodeO O t = some n) : kidsO O t = kidsN n := by unfold kidsO; rw [h]
theorem kidsO_none {O : List Ob} {t : Txt} (h : nodeO O t = none) : kidsO O t = [] := by unfold kidsO; rw [h]
theorem fit_few {n : Nd} (h : fitN n = true) : n.ps.length + n.es.length ≤ 100000 := by
 rcases fit_kinds h with hk | hk | hk
 ·rw [fit_piece hk] at h; simp at h; rw [h.1.2, h.2]; simp
 ·rw [fit_file hk] at h; simp at h; rw [h.1.1.2]; have := h.1.2; simp; omega
 ·rw [fit_dir hk] at h; simp at h; rw [h.1.1.2]; have := h.1.2; simp; omega
def RetReach (O : List Ob) (F : List Txt) (w : World) (e : Ending) (w' : World) : Prop :=
 ∃ v M c, e = .returned (.tuple #[v, .bool c]) ∧ OwnTxt w w' v M ∧ Rises M ∧ (∀ t, t ∈ M ↔ ReachO O F t) ∧ (c = true ↔ WholeO O F) ∧ Below w.heap.size w w'
structure ReachI (w W1 : World) (b : Nat) (vO : Value) (O : List Ob) (F P Q : List Txt) (X : World) : Prop where
 que : ∃ vQ, Que W1 (W1.heap.size + 1) W1.heap.size X Q vQ
 nodup : Q.Nodup
 sub : ∀ t ∈ Q, ReachO O F t
 start : ∀ t ∈ F, t.length = 32 → t ∈ Q
 kids : ∀ t ∈ P, ∀ u ∈ kidsO O t, u ∈ Q
 objs : Row X w.heap.size #[vO] 22
 pq : Row X b #[.pointer (some ⟨W1.heap.size + 1, 0, none⟩)] 117
 wh : ∃ c, Row X (b + 1) #[.bool c] 4 ∧ (c = true ↔ ∀ t ∈ P, (nodeO O t).isSome = true)
 pt : Row X (b + 2) #[.pointer (some ⟨W1.heap.size + 1, 0, none⟩)] 117
 below : Below w.heap.size w X
 fr : w.heap.size < W1.heap.size ∧ W1.heap.size + 1 < b
section
variable {w W1 X Y : World} {b : Nat} {vO : Value} {O : List Ob} {F P Q : List Txt}
theorem ReachI.stays (h : ReachI w W1 b vO O F P Q X) (hb : Below X.heap.size X Y) : ReachI w W1 b vO O F P Q Y := by
 obtain ⟨⟨vQ, h1⟩, h2, h3, h4, h5, h6, h7, ⟨c, h8, h8'⟩, h9, h10, h11⟩ := h
 exact ⟨⟨vQ, h1.stays hb⟩, h2, h3, h4, h5, h6.step hb, h7.step hb, ⟨c, h8.step hb, h8'⟩, h9.step hb, below_step h10 hb, h11⟩
theorem row_put {X : World} {k l : Nat} {xs : Array Value} {T : TypeId} {o o' : Loop} (h : Row X k xs T) (ho : X.heap[l]? = some (.loop o)) : Row (X.putObj l (.loop o')) k xs T :=
 (World.putObj_heap_other (fun e => by
  rw [show Row X k _ _ = (X.heap[k]? = some _) from rfl, e, ho] at h
  cases h)).trans h
theorem ReachI.put {l : Nat} {o o' : Loop} (h : ReachI w W1 b vO O F P Q X) (hl : W1.heap.size ≤ l) (ho : X.heap[l]? = some (.loop o)) : ReachI w W1 b vO O F P Q (X.putObj l (.loop o')) := by
 obtain ⟨⟨vQ, h1⟩, h2, h3, h4, h5, h6, h7, ⟨c, h8, h8'⟩, h9, h10, h11⟩ := h
 have hg := grownBy_putObj' X l (.loop o')
 refine ⟨⟨vQ, row_put h1.row ho, World.ownsRow.kept h1.list hg ?_, h1.set.kept hg (fun e => ?_), h1.fq, h1.fm, h1.below.grown hg h1.below.size (fun g e => by cases e; exact hl)⟩, h2, h3, h4, h5, row_put h6 ho, row_put h7 ho, ⟨c, row_put h8 ho, h8'⟩, row_put h9 ho, h10.grown hg h10.size (fun g e => by cases e; have := h11.1; omega), h11⟩
 ·rcases h1.list.2 with ⟨rfl, _⟩ | ⟨g, cap, cur, rfl, _, h5, _⟩
  ·exact .inl rfl
  ·refine .inr fun e => ?_
   cases e
   rw [ho] at h5; cases h5
 ·cases e
  obtain ⟨es, cl, hb⟩ := h1.set.block
  rw [ho] at hb; cases hb
theorem ReachI.bad {x : Txt} (h : ReachI w W1 b vO O F P Q X) (hx : nodeO O x = none) : ReachI w W1 b vO O F (P ++ [x]) Q (X.setCell ⟨b + 1, 0, none⟩ (.bool false)) := by
 obtain ⟨⟨vQ, h1⟩, h2, h3, h4, h5, h6, h7, ⟨c, h8, h8'⟩, h9, h10, h11⟩ := h
 obtain ⟨f1, f2⟩ := h11
 have hs : Wf X.heap.size (b + 1) X (X.setCell ⟨b + 1, 0, none⟩ (.bool false)) := Wf.set _
 have hg := grownBy_set X (b + 1) 0 (.bool false)
 refine ⟨⟨vQ, hs.row h1.row h1.row.lt (by omega), hs.owns h1.list (fun g e => (World.ownsRow.lt h1.list g e).2) (owns_apart h1.list h8 (by decide)), h1.set.kept hg (fun e => by have := Option.some.inj e; omega), h1.fq, h1.fm, h1.below.setCell (p := ⟨b + 1, 0, none⟩) (by show _ ≤ b + 1; omega) _⟩, h2, h3, h4, ?_, hs.row h6 h6.lt (by omega), hs.row h7 h7.lt (by omega), ⟨false, h8.set 0 _, ?_⟩, hs.row h9 h9.lt (by omega), h10.setCell (p := ⟨b + 1, 0, none⟩) (by show _ ≤ b + 1; omega) _, f1, f2⟩
 ·intro t ht u hu
  rcases List.mem_append.1 ht with ht | ht
  ·exact h5 t ht u hu
  ·rw [List.mem_singleton.1 ht, kidsO_none hx] at hu
   cases hu
 ·constructor
  ·intro e; cases e
  ·intro e
   have := e x (by simp)
   rw [hx] at this; cases this
theorem ReachI.good {x : Txt} {n : Nd} (h : ReachI w W1 b vO O F P Q X) (hxq : x ∈ Q) (hx : nodeO O x = some n) (hk : Qk W1.heap.size (W1.heap.size + 1) W1.heap.size X Y) (hq : ∃ vQ, Que W1 (W1.heap.size + 1) W1.heap.size Y (addQ Q (ofL (kidsN n))) vQ) :
  ReachI w W1 b vO O F (P ++ [x]) (addQ Q (ofL (kidsN n))) Y := by
 obtain ⟨⟨vQ, h1⟩, h2, h3, h4, h5, h6, h7, ⟨c, h8, h8'⟩, h9, h10, h11⟩ := h
 obtain ⟨f1, f2⟩ := h11
 refine ⟨hq, addQ_nodup h2, ?_, fun t ht hl => mem_addQ.2 (.inl (h4 t ht hl)), ?_, hk.row h6 (by decide) (by omega) (by omega), hk.row h7 (by decide) (by omega) (by omega), ⟨c, hk.row h8 (by decide) (by omega) (by omega), ?_⟩, hk.row h9 (by decide) (by omega) (by omega), ?_, f1, f2⟩
 ·intro t ht
  rcases mem_addQ.1 ht with ht | ht
  ·exact h3 t ht
  ·refine .kid (h3 x hxq) ?_
   rw [kidsO_of hx]
   exact (((ofL_spec _).2 t).1 ht).1
 ·intro t ht u hu
  rcases List.mem_append.1 ht with ht | ht
  ·exact mem_addQ.2 (.inl (h5 t ht u hu))
  ·rw [List.mem_singleton.1 ht] at hu
   have hl := kidsO_len hu
   rw [kidsO_of hx] at hu
   exact mem_addQ.2 (.inr (((ofL_spec _).2 u).2 ⟨hu, hl⟩))
 ·rw [h8']
  constructor
  ·intro e t ht
   rcases List.mem_append.1 ht with ht | ht
   ·exact e t ht
   ·rw [List.mem_singleton.1 ht, hx]; rfl
  ·exact fun e t ht => e t (List.mem_append_left _ ht)
 ·exact h10.trans ⟨hk.os, hk.tape, hk.output, hk.size, fun k hk' => hk.block k (by have := h10.size; omega) (by omega) (by omega) (.inl (by omega))⟩
theorem ReachI.done (h : ReachI w W1 b vO O F P P X) : (∀ t, t ∈ P ↔ ReachO O F t) ∧ ∀ c, Row X (b + 1) #[.bool c] 4 → (c = true ↔ WholeO O F) := by
 obtain ⟨_, _, h3, h4, h5, _, _, ⟨c, h8, h8'⟩, _⟩ := h
 have hm : ∀ t, t ∈ P ↔ ReachO O F t := fun t => ⟨h3 t, fun hr => by
  induction hr with
  | start h1 h2 => exact h4 _ h1 h2
  | kid _ h2 ih => exact h5 _ ih _ h2⟩
 refine ⟨hm, fun c' hc => ?_⟩
 have e := (show X.heap[b + 1]? = _ from h8).symm.trans hc
 cases e
 rw [h8']
 exact ⟨fun e t ht => e t ((hm t).2 ht), fun e t ht => e t ((hm t).1 ht)⟩
end
def fraU (W1 wz : World) (b bn : Nat) (Q : List Txt) (vQ : Value) (n : Nd) (a1 a2 : Option Addr) (z1 cap1 z2 cap2 : Nat) : Nat → Value → Value → World → Prop
 | 0 => fun v _ _ => v = .pointer (some ⟨W1.heap.size + 1, 0, none⟩)
 | 1 => fun v _ _ => v = .agg #[.int .i64 n.kd, .string n.d, .slice a1 z1 cap1, .slice a2 z2 cap2]
 | 2 => fun v _ w => OwnTxt wz w v (ofL (kidsN n))
 | 3 => fun _ _ w => ∃ vQ', Que W1 (W1.heap.size + 1) W1.heap.size w (addQ Q (ofL (kidsN n))) vQ'
 | 4 => fun _ _ w => Row w b #[.pointer (some ⟨W1.heap.size + 1, 0, none⟩)] 117
 | 5 => fun _ _ w => Row w bn #[.int .i64 n.kd, .string n.d, .slice a1 z1 cap1, .slice a2 z2 cap2] 53
 | 6 => fun _ _ w => Que W1 (W1.heap.size + 1) W1.heap.size w Q vQ
 | 7 => fun _ _ w => IsParts w (.slice a1 z1 cap1) n.ps ∧ IsEntries w (.slice a2 z2 cap2) n.es
 | _ => fun _ _ _ => True
def fraN : List (List Nat) := [[4], [5], [1, 7], [0, 2, 6]]
def fraE : Nat → Option Tmp
 | _ => none
def fraB : List (Nat × Nat) := [(3, 2), (3, 4), (3, 5), (3, 6), (3, 7)]
theorem fra_T (W1 wz : World) (b bn : Nat) (Q : List Txt) (vQ : Value) (n : Nd) (a1 a2 : Option Addr) (z1 cap1 z2 cap2 : Nat) (ix kx : Nat) (v e : Value) (w w' : World) (hk : kx < 8) (hne : kx ≠ ix) (hbd : (ix, kx) ∉ fraB) (hU : (fraU W1 wz b bn Q vQ n a1 a2 z1 cap1 z2 cap2) kx v e w) (hT : (appTs [3] (rchR W1)) ix w w') : (fraU W1 wz b bn Q vQ n a1 a2 z1 cap1 z2 cap2) kx v e w' := by
 by_cases hi3 : ix = 3
 ·subst hi3
  have hR := appTs_in (by decide) hT
  rcases (show kx = 0 ∨ kx = 1 ∨ kx = 2 ∨ kx = 3 ∨ kx = 4 ∨ kx = 5 ∨ kx = 6 ∨ kx = 7 by omega) with rfl | rfl | rfl | rfl | rfl | rfl | rfl | rfl
  ·exact hU
  ·exact hU
  ·exact absurd (by decide) hbd
  ·exact absurd rfl hne
  ·exact absurd (by decide) hbd
  ·exact absurd (by decide) hbd
  ·exact absurd (by decide) hbd
  ·exact absurd (by decide) hbd
 have hi : ix ∉ [3] := by simp [hi3]
 have hb : Below w.heap.size w w' := appTs_out hi hT
 rcases (show kx = 0 ∨ kx = 1 ∨ kx = 2 ∨ kx = 3 ∨ kx = 4 ∨ kx = 5 ∨ kx = 6 ∨ kx = 7 by omega) with rfl | rfl | rfl | rfl | rfl | rfl | rfl | rfl
 ·exact hU
 ·exact hU
 ·exact OwnTxt.stays hU hb
 ·exact by obtain ⟨vQ', h⟩ := hU; exact ⟨vQ', h.stays hb⟩
 ·exact Row.step hU hb
 ·exact Row.step hU hb
 ·exact Que.stays hU hb
 ·exact ⟨IsParts.stays hU.1 hb, IsEntries.stays hU.2 hb⟩
def frbU (W1 wz : World) (b : Nat) (Q S : List Txt) (vQ : Value) (c : Bool) : Nat → Value → Value → World → Prop
 | 0 => fun v _ _ => v = .pointer (some ⟨W1.heap.size + 1, 0, none⟩)
 | 1 => fun v _ w => OwnTxt wz w v S
 | 2 => fun v _ _ => v = .bool c
 | 3 => fun v _ w => OwnTxt wz w v S
 | 4 => fun v _ _ => v = .bool c
 | 5 => fun _ _ w => Row w b #[.pointer (some ⟨W1.heap.size + 1, 0, none⟩)] 117
 | 6 => fun _ _ w => Que W1 (W1.heap.size + 1) W1.heap.size w Q vQ
 | 7 => fun _ _ w => Row w (b + 1) #[.bool c] 4
 | _ => fun _ _ _ => True
def frbN : List (List Nat) := [[5], [0, 6], [7], [1], [2]]
def frbE : Nat → Option Tmp
 | _ => none
def frbB : List (Nat × Nat) := []
theorem frb_T (W1 wz : World) (b : Nat) (Q S : List Txt) (vQ : Value) (c : Bool) (ix kx : Nat) (v e : Value) (w w' : World) (hk : kx < 8) (hne : kx ≠ ix) (hbd : (ix, kx) ∉ frbB) (hU : (frbU W1 wz b Q S vQ c) kx v e w) (hT : allT ix w w') : (frbU W1 wz b Q S vQ c) kx v e w' := by
 have hb : Below w.heap.size w w' := hT
 rcases (show kx = 0 ∨ kx = 1 ∨ kx = 2 ∨ kx = 3 ∨ kx = 4 ∨ kx = 5 ∨ kx = 6 ∨ kx = 7 by omega) with rfl | rfl | rfl | rfl | rfl | rfl | rfl | rfl
 ·exact hU
 ·exact OwnTxt.stays hU hb
 ·exact hU
 ·exact OwnTxt.stays hU hb
 ·exact hU
 ·exact Row.step hU hb
 ·exact Que.stays hU hb
 ·exact Row.step hU hb
set_option maxRecDepth 100000 in
set_option maxHeartbeats 16000000 in
theorem Reach_any (vO fv : Value) (O : List Ob) (F : List ByteArray) (w : World) (h : IsObs w vO O) (hr : RiseO O) (hl : O.length ≤ 1000000) (hz : ∀ y ∈ O, y.r.size ≤ 1000000) (hT : ErrT w) (hf : IsStrs w fv F) (hF : F.length ≤ 800000)
  (U : List Txt) (hU : ∀ t, ReachO O (txts F) t → t ∈ U) (hUl : U.length ≤ 900000) :
  Calls Tryz.prog 51 #[vO, fv] w (RetReach O (txts F) w) := by
 have hro : Fence.wide.round = none := rfl
 obtain ⟨W, hW⟩ : ∃ W, W = w.alloc (.cells #[vO] 22) := ⟨_, rfl⟩
 have hbW : Below w.heap.size w W := by rw [hW]; exact (Below.refl _ _).alloc (Nat.le_refl _) _
 have HRW : Hid (Row W w.heap.size #[vO] 22) := Lib.hid (by rw [hW]; exact Row.made _ _ _)
 have CO := Lib.hid (Of_own fv F W (hf.stays hbW) hF)
 have HB := Lib.hid hbW; have HW := Lib.hid hW; have HO := Lib.hid h; have HR := Lib.hid hr; have HZ := Lib.hid hz; have HT := Lib.hid hT; have HU := Lib.hid hU
 obtain ⟨_, fa, fc, hfv, _, _⟩ := hf
 obtain ⟨_, oa, oc, hov, _, _⟩ := h
 obtain ⟨zf, hzf⟩ : ∃ z, z = F.length := ⟨_, rfl⟩
 obtain ⟨zo, hzo⟩ : ∃ z, z = O.length := ⟨_, rfl⟩
 rw [← hzf] at hfv; rw [← hzo] at hov
 clear hbW hW hr hz hT hU hzf hzo hF
 subst hfv hov
 refine (callsIn_wide (n := 9)).1 ?_
 refine callsIn_of_wp_marks Tryz.func51 rfl trivial ?_ hro
 simp only [Tryz.ntmps51, List.size_toArray, List.length_cons, List.length_nil, Nat.reduceAdd, Nat.reduceSub, Array.replicate_succ, Array.replicate_zero, List.push_toArray, List.append_toArray, List.nil_append, List.cons_append]
 refine wpIn_wide.2 ?_
 go_wp2_with fail
 rw [← HW.out]
 refine CO.out.mono ?_
 rintro e W1 ⟨v1, rfl, ho1, hb1⟩
 have CN := Lib.hid (newQueue_any W (ofL (txts F)) v1 W1 ho1 (fun t ht => (((ofL_spec _).2 t).1 ht).2) (by have := HU.out; exact Nat.le_trans (List.Nodup.length_le_of_subset (rises_nodup (ofL_spec (txts F)).1) (fun t ht => this t (.start (((ofL_spec _).2 t).1 ht).1 (((ofL_spec _).2 t).1 ht).2))) (by omega)))
 have HB1 := Lib.hid (below_step HB.out hb1)
 have HR1 := Lib.hid (HRW.out.step hb1)
 obtain ⟨_, qa, qc, hv1, _, _⟩ := ho1.strs
 obtain ⟨zq, hzq⟩ : ∃ z, z = (strsOf (ofL (txts F))).length := ⟨_, rfl⟩
 rw [← hzq] at hv1
 clear ho1 hb1 hzq
 subst hv1
 go_wp2_with fail
 refine CN.out.mono ?_
 rintro e W2 ⟨rfl, vQ0, hq0⟩
 have HQ0 := Lib.hid hq0
 obtain ⟨V, hV⟩ : ∃ V, V = (W2.alloc (.cells #[.pointer (some ⟨W1.heap.size + 1, 0, none⟩)] 117)).alloc (.cells #[.bool true] 4) := ⟨_, rfl⟩
 obtain ⟨V2, hV2⟩ : ∃ V2, V2 = V.alloc (.cells #[.pointer (some ⟨W1.heap.size + 1, 0, none⟩)] 117) := ⟨_, rfl⟩
 have hb2 := HQ0.out.below
 have hs2 : W1.heap.size + 1 < W2.heap.size := HQ0.out.row.lt
 have hs1 : w.heap.size < W1.heap.size := HR1.out.lt
 have hbV : Below W2.heap.size W2 V2 := by
  rw [hV2, hV]
  exact (((Below.refl _ _).alloc (Nat.le_refl _) _).alloc (by simp) _).alloc (by simp; omega) _
 have hVs : V.heap.size = W2.heap.size + 2 := by rw [hV]; simp
 have HI0 : Hid (ReachI w W1 W2.heap.size (.slice oa zo oc) O (txts F) [] (addQ [] (ofL (txts F))) V2) := Lib.hid (by
  refine ⟨⟨vQ0, HQ0.out.stays hbV⟩, addQ_nodup List.nodup_nil, ?_, ?_, (fun t ht => by cases ht), (HR1.out.step hb2).step hbV, ?_, ⟨true, ?_, by simp⟩, ?_, below_step (below_step HB1.out hb2) hbV, hs1, hs2⟩
  ·intro t ht
   have := (((ofL_spec _).2 t).1 ((mem_addQ.1 ht).resolve_left (by simp)))
   exact .start this.1 this.2
  ·exact fun t ht hl => mem_addQ.2 (.inr (((ofL_spec _).2 t).2 ⟨ht, hl⟩))
  ·rw [hV2, hV]; exact ((Row.made _ _ _).alloc _).alloc _
  ·rw [hV2, hV]
   have := (Row.made (W2.alloc (.cells #[.pointer (some ⟨W1.heap.size + 1, 0, none⟩)] 117)) #[.bool true] 4).alloc (.cells #[.pointer (some ⟨W1.heap.size + 1, 0, none⟩)] 117)
   simpa using this
  ·rw [hV2]
   have := Row.made V #[.pointer (some ⟨W1.heap.size + 1, 0, none⟩)] 117
   rw [hVs] at this; exact this)
 have CA := Lib.hid (all_any (W1.heap.size + 1) V)
 have HV := Lib.hid hV; have HV2 := Lib.hid hV2; have HVS := Lib.hid hVs; have HS2 := Lib.hid hs2; have HS1 := Lib.hid hs1
 have HBV := Lib.hid hbV
 clear hq0 hb2 hbV hV hV2 hVs hs1
 go_wp2_with fail
 rw [← HV.out]
 with_reducible refine CA.out.mono ?_
 rintro e V3 ⟨rfl, hV3⟩
 obtain rfl := HV2.out.trans hV3
 clear hV3
 have HGI : Hid (∀ P R X, ReachI w W1 W2.heap.size (.slice oa zo oc) O (txts F) P (P ++ R) X → QueOk (W1.heap.size + 1) (W2.heap.size + 2) (P ++ R) X ∧ (P ++ R).length ≤ U.length) := Lib.hid (fun P R X hI => by
  obtain ⟨vQ, hq⟩ := hI.que
  exact ⟨⟨⟨vQ, hq.row.cell 0, hq.list.strs⟩, hI.pt.cell 0⟩, List.Nodup.length_le_of_subset hI.nodup (fun t ht => HU.out t (hI.sub t ht))⟩)
 rw [HVS.out]
 go_wp2_with fail
 refine (wpIn_wide (n := 9)).1 ?_
 refine wpIn_rangeFunc_que hro (by decide) (gf := 94) (lb := #[.pointer (some ⟨W2.heap.size + 2, 0, none⟩)]) (by simp [Act.eval]) trivial (enters_of Tryz.func94 (by kernel_rfl) rfl)
  (all_seq 8 (by decide) (W1.heap.size + 1) (W2.heap.size + 2) U.length (by omega) V2) (Below.refl _ _) rfl
  (fun P R X => ReachI w W1 W2.heap.size (.slice oa zo oc) O (txts F) P (P ++ R) X) HGI.out (fun P R X Y h hb => h.stays hb)
  (fun P R X l o o' h hl ho => h.put (by have := HBV.out.size; omega) ho) (addQ [] (ofL (txts F))) HI0.out
  (fun x => { tmps := #[.slice oa zo oc, .slice fa zf fc, .pointer (some ⟨w.heap.size, 0, none⟩), undef, .slice none 0 0, .bool false, .pointer (some ⟨W2.heap.size, 0, none⟩), .pointer (some ⟨W2.heap.size + 1, 0, none⟩), .string ⟨x.toArray⟩, undef, undef, .slice fa zf fc, .slice qa zq qc, .pointer (some ⟨W1.heap.size + 1, 0, none⟩), .pointer (some ⟨W1.heap.size + 1, 0, none⟩), allV (W2.heap.size + 2), .string ⟨x.toArray⟩, undef, undef, undef, undef, undef, undef, undef, undef, undef, undef, undef, undef, undef, undef, undef, undef, undef, undef, undef, undef, undef], defers := [] })
  ?assign ?body ?done
 case assign =>
  intro l x W' K hK
  gi_wp2
  exact hK
 case body =>
  intro l P x R X hI
  have HI := Lib.hid hI
  have hbX := hI.below
  have k0 : X.cell? ⟨w.heap.size, 0, none⟩ = some (.slice oa zo oc) := hI.objs.cell 0
  have CR := Lib.hid (read_any (.slice oa zo oc) O ⟨x.toArray⟩ X (HO.out.stays hbX) HR.out hl HZ.out (HT.out.stays hbX))
  rw [show (⟨x.toArray⟩ : ByteArray).data.toList = x by simp] at CR
  clear hI hbX
  cases hre : readE O x with
  | ok n =>
   rw [hre] at CR
   have CR2 := Lib.hid (CR.out.mono fun e w' h => h.of_ok)
   obtain ⟨hfit, _⟩ : fitN n = true ∧ True := ⟨nodeO_fit (readE_node.1 hre), trivial⟩
   have HNO := Lib.hid (readE_node.1 hre)
   have HNK := Lib.hid (fit_few hfit)
   have HK32 : Hid (∀ t ∈ ofL (kidsN n), t.length = 32) := Lib.hid (fun t ht => (((ofL_spec _).2 t).1 ht).2)
   have IN5 := Lib.hid (is_nil_any 5); have IN2 := Lib.hid (is_nil_any 2)
   clear CR hre hfit
   gi_wp2_with (first
    | (refine ⟨trivial, ?_⟩; gi_at_call 73; refine (CallsIn.inRound l (callsIn_wide.2 CR2.out)).mono ?_; rintro e w1 ⟨pv, ev, rfl, hpv, hev, hb1⟩; obtain ⟨_, a1, cap1, hv1, _, _⟩ := hpv.is; obtain ⟨_, a2, cap2, hv2, _, _⟩ := hev.is; have HP := Lib.hid (And.intro hpv.is hev.is); have HI1 := Lib.hid (HI.out.stays hb1); have HXW := Lib.hid hb1; (obtain ⟨z1, hz1⟩ : ∃ z, z = n.ps.length := ⟨_, rfl⟩); (obtain ⟨z2, hz2⟩ : ∃ z, z = n.es.length := ⟨_, rfl⟩); rw [← hz1] at hv1; rw [← hz2] at hv2; clear hz1 hz2 hpv hev hb1; subst hv1 hv2)
    | (refine ⟨trivial, ?_⟩; gi_at_call 74; (with_reducible refine (CallsIn.inRound l (callsIn_wide.2 (IN5.out _))).mono ?_); rintro e w3 ⟨rfl, rfl⟩)
    | (refine ⟨trivial, ?_⟩; gi_at_call 74; (with_reducible refine (CallsIn.inRound l (callsIn_wide.2 (IN2.out _))).mono ?_); rintro e w3 ⟨rfl, rfl⟩))
   obtain ⟨Wz, hWz⟩ : ∃ Wz, Wz = w1.alloc (.cells #[.int .i64 n.kd, .string n.d, .slice a1 z1 cap1, .slice a2 z2 cap2] 53) := ⟨_, rfl⟩
   have hbz : Below w1.heap.size w1 Wz := by rw [hWz]; exact (Below.refl _ _).alloc (Nat.le_refl _) _
   have HBN0 : Hid (Row Wz w1.heap.size #[.int .i64 n.kd, .string n.d, .slice a1 z1 cap1, .slice a2 z2 cap2] 53) := Lib.hid (by rw [hWz]; exact Row.made _ _ _)
   have HI2 := Lib.hid (HI1.out.stays hbz)
   have HXZ := Lib.hid (below_step HXW.out hbz)
   have HPZ := Lib.hid (And.intro (HP.out.1.stays hbz) (HP.out.2.stays hbz))
   rw [← hWz]
   clear hWz hbz k0
   obtain ⟨bn, hbn⟩ : ∃ bn, bn = w1.heap.size := ⟨_, rfl⟩
   have HBN : Hid (Row Wz bn #[.int .i64 n.kd, .string n.d, .slice a1 z1 cap1, .slice a2 z2 cap2] 53) := Lib.hid (by rw [hbn]; exact HBN0.out)
   rw [← hbn]
   clear hbn
   obtain ⟨vQ, hqz⟩ := HI2.out.que
   obtain ⟨Q, hQ⟩ : ∃ Q, Q = P ++ x :: R := ⟨_, rfl⟩
   rw [← hQ] at hqz HI2
   have HQE := Lib.hid hQ
   obtain ⟨b, hb⟩ : ∃ b, b = W2.heap.size := ⟨_, rfl⟩
   rw [← hb] at HI2 ⊢
   have HP6 := Lib.hid HI2.out.pq
   have HQZ := Lib.hid hqz
   have HQL : Hid (∀ g, vQ.ownBlock = some g → g < Wz.heap.size) := Lib.hid (fun g hg => (World.ownsRow.lt hqz.list g hg).2)
   have HXQ : Hid (x ∈ Q) := Lib.hid (by rw [hQ]; simp)
   have HADD : Hid (∀ j, (addQ Q ((ofL (kidsN n)).take j)).length ≤ 1000000) := Lib.hid (fun j => by
    have h1 := List.Nodup.length_le_of_subset (addQ_nodup (L := (ofL (kidsN n)).take j) HI2.out.nodup) (fun t ht => HU.out t (by
     rcases mem_addQ.1 ht with ht | ht
     ·exact HI2.out.sub t ht
     ·refine .kid (HI2.out.sub x HXQ.out) ?_
      rw [kidsO_of HNO.out]
      exact (((ofL_spec _).2 t).1 (List.mem_of_mem_take ht)).1))
    omega)
   have FIN : Hid (∀ w5, (∃ vQ', Que W1 (W1.heap.size + 1) W1.heap.size w5 (addQ Q (ofL (kidsN n))) vQ') → Qk W1.heap.size (W1.heap.size + 1) W1.heap.size Wz w5 → KeepsLD X w5 ∧ ∃ R', ReachI w W1 W2.heap.size (.slice oa zo oc) O (txts F) (P ++ [x]) (P ++ [x] ++ R') w5) := Lib.hid (fun w5 h3 hG => by
    rw [← hb]
    refine ⟨(KeepsLD.below HXZ.out).trans (hG.ld HQZ.out.row HQZ.out.set), ?_⟩
    have h4 := HI2.out.good HXQ.out HNO.out hG h3
    obtain ⟨R2, hR2⟩ := addQ_grows (L := ofL (kidsN n)) (Q := Q)
    rw [hR2, HQE.out] at h4
    exact ⟨R ++ R2, by simpa using h4⟩)
   clear hqz hQ hb
   refine wpIn_region_round (by kernel_rfl) (by kernel_rfl) ?hq ?_
   case hq =>
    rintro ⟨a, w', h⟩
    exact absurd h.1 (by simp)
   refine wp_any_wordsG (by kernel_rfl) (appTs [3] (rchR W1)) (Qk W1.heap.size (W1.heap.size + 1) W1.heap.size Wz) fraE (fraU W1 Wz b bn Q vQ n a1 a2 z1 cap1 z2 cap2) 8 fraN [3] (by kernel_rfl) (by kernel_rfl) (by kernel_rfl)
    fraB (by kernel_rfl) (fun ix kx v e w w' hi hk hne hb hU hT => fra_T _ _ _ _ _ _ _ _ _ _ _ _ _  ix kx v e w w' hk hne hb hU hT) (by decide) (Qk.of_below ((Below.refl _ _).drew)) (fun kx hk hge => ?hv0)
    [31, 32, 33, 34] (by kernel_rfl) (forall_ops ?steps) ?behind
   case hv0 =>
    have hge' : 4 ≤ kx := hge
    rcases (show kx = 4 ∨ kx = 5 ∨ kx = 6 ∨ kx = 7 by omega) with rfl | rfl | rfl | rfl
    ·exact HP6.out.drew
    ·exact HBN.out.drew
    ·exact HQZ.out.stays ((Below.refl _ _).drew)
    ·exact ⟨HPZ.out.1.stays ((Below.refl _ _).drew), HPZ.out.2.stays ((Below.refl _ _).drew)⟩
   case steps =>
    refine ⟨?_, ?_, ?_, ?_, trivial⟩
    ·refine stepG_of rfl ?_
     exact stepR_value (t := 31) (.pointer (some ⟨W1.heap.size + 1, 0, none⟩)) rfl (fun _ => appTs_other (by decide) (Below.refl _ _)) (fun ac w9 hG hN hO => by
      have e6 : slot ac 6 = .pointer (some ⟨b, 0, none⟩) := hO 6 (by kernel_rfl)
      have hx : Row w9 b #[.pointer (some ⟨W1.heap.size + 1, 0, none⟩)] 117 := hN 4 (by decide)
      have c0 : w9.cell? ⟨b, 0, none⟩ = some (.pointer (some ⟨W1.heap.size + 1, 0, none⟩)) := hx.cell 0
      have f := slot_at e6
      unfold execOp; go_simp) (fun ac w9 hG hN => rfl)
    ·refine stepG_of rfl ?_
     exact stepR_value (t := 32) (.agg #[.int .i64 n.kd, .string n.d, .slice a1 z1 cap1, .slice a2 z2 cap2]) rfl (fun _ => appTs_other (by decide) (Below.refl _ _)) (fun ac w9 hG hN hO => by
      have e9 : slot ac 9 = .pointer (some ⟨bn, 0, none⟩) := hO 9 (by kernel_rfl)
      have hx : Row w9 bn #[.int .i64 n.kd, .string n.d, .slice a1 z1 cap1, .slice a2 z2 cap2] 53 := hN 5 (by decide)
      have c0 : w9.cell? ⟨bn, 0, none⟩ = some (.int .i64 n.kd) := hx.cell 0
      have c1 : w9.cell? ⟨bn, 1, none⟩ = some (.string n.d) := hx.cell 1
      have c2 : w9.cell? ⟨bn, 2, none⟩ = some (.slice a1 z1 cap1) := hx.cell 2
      have c3 : w9.cell? ⟨bn, 3, none⟩ = some (.slice a2 z2 cap2) := hx.cell 3
      have f := slot_at e9
      unfold execOp; go_simp) (fun ac w9 hG hN => rfl)
    ·refine stepG_of rfl ?_
     intro ac w9 hG hN hO
     have e32 : slot ac 32 = .agg #[.int .i64 n.kd, .string n.d, .slice a1 z1 cap1, .slice a2 z2 cap2] := hN 1 (by decide)
     have hx : IsParts w9 _ _ ∧ IsEntries w9 _ _ := hN 7 (by decide)
     refine wp_callx 76 _ _ rfl (enters_of Tryz.func76 (by kernel_rfl) rfl) #[.agg #[.int .i64 n.kd, .string n.d, .slice a1 z1 cap1, .slice a2 z2 cap2]] (by simp [eval_slot, e32]) (calls_own hG.size (pKids_own n _ _ w9 hx.1 hx.2 HNK.out)) ?_
     rintro v w'' ⟨hv, hb⟩
     exact ⟨v, rfl, appTs_other (by decide) hb, hG.on hb, hv⟩
    ·refine stepG_of rfl ?_
     intro ac w9 hG hN hO
     have e31 : slot ac 31 = .pointer (some ⟨W1.heap.size + 1, 0, none⟩) := hN 0 (by decide)
     have e33 : OwnTxt Wz w9 (slot ac 33) (ofL (kidsN n)) := hN 2 (by decide)
     have hq : Que W1 (W1.heap.size + 1) W1.heap.size w9 Q vQ := hN 6 (by decide)
     refine wp_callx 75 _ _ rfl (enters_of Tryz.func75 (by kernel_rfl) rfl) #[.pointer (some ⟨W1.heap.size + 1, 0, none⟩), slot ac 33] (by simp [eval_slot, e31]) (calls_add (fadd_any W1 Wz (W1.heap.size + 1) W1.heap.size Q (ofL (kidsN n)) vQ (slot ac 33) w9 hq e33 (fun g hg e => by
      have h1 := (World.ownsRow.lt e33 g hg).1
      have h2 := HQL.out g e
      omega) HK32.out HADD.out)) ?_
     rintro v w'' ⟨hv, hb⟩
     exact ⟨v, rfl, appTs_at (by decide) hb, hG.trans hb, hv⟩
   case behind =>
    intro ac w5 hG hV hS ha
    have h3 : ∃ vQ', Que W1 (W1.heap.size + 1) W1.heap.size w5 (addQ Q (ofL (kidsN n))) vQ' := hV 3 (by decide) (by decide)
    generalize slot ac = sl at ha h3
    subst ha
    simp only [patchL, List.contains_cons, List.contains_nil, Nat.reduceBEq, Bool.or_false, Bool.or_true, if_true, Bool.false_eq_true, if_false, Nat.reduceAdd]
    generalize sl 31 = s31
    generalize sl 32 = s32
    generalize sl 33 = s33
    generalize sl 34 = s34 at h3 ⊢
    clear hV hS
    first
     | (gi_wp2; exact FIN.out w5 h3 hG)
     | (simp only [Exit.inBlock]; exact ⟨rfl, FIN.out w5 h3 hG⟩)
  | error k =>
   rw [hre] at CR
   have CR2 := Lib.hid (CR.out.mono fun e w' h => h.of_err)
   obtain ⟨hno, hk5⟩ := readE_err hre
   clear CR hre
   gi_wp2_with (refine ⟨trivial, ?_⟩; gi_at_call 73; refine (CallsIn.inRound l (callsIn_wide.2 CR2.out)).mono ?_; rintro e w1 ⟨s', rfl, hb1⟩)
   have HNO := Lib.hid hno
   have hbA := (Below.refl w1.heap.size w1).alloc (Nat.le_refl _) (.cells #[.int .i64 0, .string ⟨#[]⟩, .slice none 0 0, .slice none 0 0] 53)
   have HI2 := Lib.hid ((HI.out.stays hb1).stays hbA)
   have HXW := Lib.hid (below_step hb1 hbA)
   clear hno hb1 hbA k0
   rcases hk5 with rfl | rfl
   ·have IS55 := Lib.hid (is_yes s' 5)
    gi_wp2_with (refine ⟨trivial, ?_⟩; gi_at_call 74; (with_reducible refine (CallsIn.inRound l (callsIn_wide.2 (IS55.out _))).mono ?_); rintro e w3 ⟨rfl, hb3⟩; have HI3 := Lib.hid (HI2.out.stays hb3); have HXW3 := Lib.hid (below_step HXW.out hb3); obtain ⟨c, hc7, _⟩ := HI3.out.wh; have d0 : w3.cell? ⟨W2.heap.size + 1, 0, none⟩ = some (.bool c) := hc7.cell 0; have f0 := hc7.free 0; clear hc7 hb3)
    refine ⟨trivial, ?_⟩
    gi_wp2
    exact ⟨(KeepsLD.below HXW3.out).trans (KeepsLD.of (KeepsOthers.setCell _ _ _)), R, by have := HI3.out.bad HNO.out; simpa using this⟩
   ·have IS25 := Lib.hid (is_no s' (show (2 : Int) ≠ 5 by decide))
    have IS22 := Lib.hid (is_yes s' 2)
    gi_wp2_with (first
     | (refine ⟨trivial, ?_⟩; gi_at_call 74; (with_reducible refine (CallsIn.inRound l (callsIn_wide.2 (IS25.out _))).mono ?_); rintro e w3 ⟨rfl, hb3⟩; have HI3 := Lib.hid (HI2.out.stays hb3); have HXW3 := Lib.hid (below_step HXW.out hb3); clear hb3)
     | (refine ⟨trivial, ?_⟩; gi_at_call 74; (with_reducible refine (CallsIn.inRound l (callsIn_wide.2 (IS22.out _))).mono ?_); rintro e w4 ⟨rfl, hb4⟩; have HI4 := Lib.hid (HI3.out.stays hb4); have HXW4 := Lib.hid (below_step HXW3.out hb4); obtain ⟨c, hc7, _⟩ := HI4.out.wh; have d0 : w4.cell? ⟨W2.heap.size + 1, 0, none⟩ = some (.bool c) := hc7.cell 0; have f0 := hc7.free 0; clear hc7 hb4))
    exact ⟨(KeepsLD.below HXW4.out).trans (KeepsLD.of (KeepsOthers.setCell _ _ _)), R, by have := HI4.out.bad HNO.out; simpa using this⟩
 case done =>
  intro D P Wz hD hI hdef
  rw [List.append_nil] at hI
  obtain ⟨hfm, hfw⟩ := hI.done
  obtain ⟨vQ, hqz⟩ := hI.que
  obtain ⟨c, hc7, _⟩ := hI.wh
  have hfc := hfw c hc7
  have HQN : Hid (P.length ≤ 900000) := Lib.hid (Nat.le_trans (List.Nodup.length_le_of_subset hI.nodup (fun t ht => HU.out t (hI.sub t ht))) hUl)
  obtain ⟨S, hS⟩ : ∃ S, S = P.mergeSort fun x y => decide (x ≤ y) := ⟨_, rfl⟩
  have HFS : Hid (Rises S ∧ (∀ t, t ∈ S ↔ ReachO O (txts F) t) ∧ (c = true ↔ WholeO O (txts F))) := Lib.hid ⟨by rw [hS]; exact sort_rises hI.nodup, fun t => by rw [hS, (List.mergeSort_perm _ _).mem_iff]; exact hfm t, hfc⟩
  have HSQ := Lib.hid hS
  have HBW := Lib.hid hI.below
  have HWW := Lib.hid hI.below.size
  have HDF := Lib.hid hdef
  have HDW : Hid (w.heap.size ≤ D) := Lib.hid (by have := HBV.out.size; have := HS1.out; omega)
  have HP60 := Lib.hid hI.pq
  have HQZ := Lib.hid hqz
  obtain ⟨Q, hQ⟩ : ∃ Q, Q = P := ⟨_, rfl⟩
  rw [← hQ] at HQZ HQN HSQ
  have HQE := Lib.hid hQ
  clear hI hfm hfw hqz hfc hS hdef hQ
  obtain ⟨b, hb⟩ : ∃ b, b = W2.heap.size := ⟨_, rfl⟩
  rw [← hb] at HP60 hc7 ⊢
  have HP6 := HP60
  have HP7 := Lib.hid hc7
  clear hb hc7
  go_wp2_with fail
  refine wp_region_wordsG (by kernel_rfl) (by kernel_rfl) allT (HeldN Wz) frbE (frbU W1 Wz b Q S vQ c) 8 frbN [3, 4] (by kernel_rfl) (by kernel_rfl) (by kernel_rfl)
   frbB (by kernel_rfl) (fun ix kx v e w w' hi hk hne hb hU hT => frb_T _ _ _ _ _ _ _  ix kx v e w w' hk hne hb hU hT) (by decide) (HeldN.drew _) (fun kx hk hge => ?hv09)
   [35, 36, 37, 4, 5] (by kernel_rfl) (forall_ops ?steps9) ?behind9
  case hv09 =>
   have hge' : 5 ≤ kx := hge
   rcases (show kx = 5 ∨ kx = 6 ∨ kx = 7 by omega) with rfl | rfl | rfl
   ·exact HP6.out.drew
   ·exact HQZ.out.stays ((Below.refl _ _).drew)
   ·exact HP7.out.drew
  case steps9 =>
   refine ⟨?_, ?_, ?_, ?_, ?_, trivial⟩
   ·refine stepG_of rfl ?_
    exact stepR_value (t := 35) (.pointer (some ⟨W1.heap.size + 1, 0, none⟩)) rfl (fun _ => Below.refl _ _) (fun ac w9 hG hN hO => by
     have e6 : slot ac 6 = .pointer (some ⟨b, 0, none⟩) := hO 6 (by kernel_rfl)
     have hx : Row w9 b #[.pointer (some ⟨W1.heap.size + 1, 0, none⟩)] 117 := hN 5 (by decide)
     have c0 : w9.cell? ⟨b, 0, none⟩ = some (.pointer (some ⟨W1.heap.size + 1, 0, none⟩)) := hx.cell 0
     have f := slot_at e6
     unfold execOp; go_simp) (fun ac w9 hG hN => rfl)
   ·refine stepG_of rfl ?_
    intro ac w9 hG hN hO
    have e35 : slot ac 35 = .pointer (some ⟨W1.heap.size + 1, 0, none⟩) := hN 0 (by decide)
    have hq : Que W1 (W1.heap.size + 1) W1.heap.size w9 Q vQ := hN 6 (by decide)
    refine wp_callx 77 _ _ rfl (enters_of Tryz.func77 (by kernel_rfl) rfl) #[.pointer (some ⟨W1.heap.size + 1, 0, none⟩)] (by simp [eval_slot, e35]) (calls_own hG.below.size (by have := set_any W1 _ _ Q vQ w9 hq HQN.out; rw [← HSQ.out] at this; exact this)) ?_
    rintro v w'' ⟨hv, hb⟩
    exact ⟨v, rfl, hb, hG.on hb, hv⟩
   ·refine stepG_of rfl ?_
    exact stepR_value (t := 37) (.bool c) rfl (fun _ => Below.refl _ _) (fun ac w9 hG hN hO => by
     have e7 : slot ac 7 = .pointer (some ⟨b + 1, 0, none⟩) := hO 7 (by kernel_rfl)
     have hx : Row w9 (b + 1) #[.bool c] 4 := hN 7 (by decide)
     have c0 : w9.cell? ⟨b + 1, 0, none⟩ = some (.bool c) := hx.cell 0
     have f := slot_at e7
     unfold execOp; go_simp) (fun ac w9 hG hN => rfl)
   ·refine stepG_of rfl ?_
    intro ac w9 hG hN hO
    have e36 : OwnTxt Wz w9 (slot ac 36) S := hN 1 (by decide)
    exact wp_value (run_move_slot (v := slot ac 36) (.inr rfl) rfl) ⟨_, rfl, Below.refl _ _, hG, e36⟩
   ·refine stepG_of rfl ?_
    exact stepR_value (t := 5) (.bool c) rfl (fun _ => Below.refl _ _) (fun ac w hG hN hO => by
     have e37 : slot ac 37 = .bool c := hN 2 (by decide)
     exact run_move_slot (.inr rfl) e37) (fun ac w hG hN => rfl)
  case behind9 =>
   intro ac w5 hG hV hS ha
   have h3 : OwnTxt Wz w5 (slot ac 4) S := hV 3 (by decide) (by decide)
   have h4 : slot ac 5 = .bool c := hV 4 (by decide) (by decide)
   generalize slot ac = sl at ha h3 h4
   subst ha
   simp only [patchL, List.contains_cons, List.contains_nil, Nat.reduceBEq, Bool.or_false, Bool.or_true, if_true, Bool.false_eq_true, if_false, Nat.reduceAdd]
   generalize sl 35 = s35
   generalize sl 36 = s36
   generalize sl 37 = s37
   generalize sl 4 = s4 at h3 ⊢
   generalize sl 5 = s5 at h4 ⊢
   subst h4
   clear hV hS
   have HB5 := Lib.hid hG.below
   have HO5 := Lib.hid (h3.low_Ned (W' := w) HWW.out)
   have HDF5 := Lib.hid ((hG.below.block D (Array.getElem?_eq_some_iff.1 HDF.out).1).trans HDF.out)
   clear h3 hG
   go_wp2
   refine ⟨by simp, .inl ⟨_, _, rfl, run_takeDeferred HDF5.out, ?_⟩⟩
   have hgp := grownBy_putObj' w5 D (.deferred none)
   refine ⟨.tuple #[s4, .bool c], by simp [results, Tryz.f51, go_sem], s4, S, c, rfl, World.ownsRow.kept HO5.out hgp ?_, HFS.out.1, HFS.out.2.1, HFS.out.2.2, (below_step HBW.out HB5.out).grown hgp (Nat.le_trans HBW.out.size HB5.out.size) (fun g e => by cases e; exact HDW.out)⟩
   rcases HO5.out.2 with ⟨rfl, _⟩ | ⟨g, cap, cur, rfl, _, h5, _⟩
   ·exact .inl rfl
   ·refine .inr fun e => ?_
    have := HDF5.out
    cases e
    rw [h5] at this; cases this
end Go.Proofs.YtokknppjeckppaaGreatDoor
set_option linter.unusedVariables false
namespace Go.Proofs.YtokknppjeckppaaGreatDoor
open Go.RowKit
attribute [local go_sem] Oper.semAt_some
theorem kids_few_Ctd {n : Nd} (h : fitN n = true) : n.ps.length + n.es.length ≤ 2000 ∧ (ofL (kidsN n)).length ≤ 2000 := by
 have h1 : n.ps.length + n.es.length ≤ 2000 := by
  rcases fit_kinds h with e | e | e
  ·obtain ⟨_, _, h1, h2⟩ := fit1 e h; rw [h1, h2]; exact Nat.zero_le _
  ·obtain ⟨_, h1, h2, _⟩ := fit2 e h; rw [h1]; simp; omega
  ·obtain ⟨_, h1, h2, _⟩ := fit3 e h; rw [h1]; simp; omega
 refine ⟨h1, ?_⟩
 have h2 : (ofL (kidsN n)).length ≤ (kidsN n).length := by
  unfold ofL
  refine Nat.le_trans (Lib.compact_length_le _) ?_
  rw [List.length_mergeSort]
  exact List.length_filter_le _ _
 have h3 : (kidsN n).length = n.ps.length + n.es.length := by unfold kidsN; rw [List.length_append, keysP_len, keysE_len]
 omega
theorem readN_nil : readN [] = none := by
 cases h : readN [] with
 | none => rfl
 | some n => exact absurd (readN_some h).2 wr_ne
theorem kids_got {O : List Ob} {t : Txt} {n : Nd} {e : Int} (h : RdOk (gotO O t).data.toList n e) : kidsN n = kidsO O t ∧ fitN n = true ∨ kidsN n = kidsO O t ∧ n = zeroNd := by
 have hr := readN_rd h
 unfold kidsO nodeO
 cases hg : getO O t with
 | none =>
  rw [gotO_none hg] at hr
  have h0 : readN (⟨#[]⟩ : ByteArray).data.toList = none := readN_nil
  rcases hr with ⟨_, h1⟩ | ⟨_, h1, _⟩
  ·rw [h0] at h1; cases h1
  ·subst h1
   exact .inr ⟨rfl, rfl⟩
 | some y =>
  rw [gotO_some hg] at hr
  rcases hr with ⟨_, h1⟩ | ⟨_, h1, h2⟩
  ·refine .inl ⟨?_, (readN_some h1).1⟩
   show _ = (match readN y.r.data.toList with | none => [] | some n => kidsN n)
   rw [h1]
  ·subst h1
   refine .inr ⟨?_, rfl⟩
   show _ = (match readN y.r.data.toList with | none => [] | some n => kidsN n)
   rw [h2]; rfl
theorem kids_gotL {O : List Ob} {t : Txt} {n : Nd} {e : Int} (h : RdOk (gotO O t).data.toList n e) : ofL (kidsN n) = kidsL O t ∧ n.ps.length + n.es.length ≤ 2000 := by
 unfold kidsL
 rcases kids_got h with ⟨h1, h2⟩ | ⟨h1, h2⟩
 ·rw [h1]; exact ⟨rfl, (kids_few_Ctd h2).1⟩
 ·rw [h1]; refine ⟨rfl, ?_⟩; subst h2; exact Nat.zero_le _
theorem got_size {O : List Ob} {t : Txt} {m : Nat} (hr : RiseO O) (h : ∀ y ∈ O, y.r.size ≤ m) : (gotO O t).size ≤ m := by
 cases hg : getO O t with
 | none => rw [gotO_none hg]; exact Nat.zero_le _
 | some y => rw [gotO_some hg]; exact h y ((getO_some hr).1 hg).1
theorem kidsL_len (O : List Ob) (t : Txt) : (kidsL O t).length ≤ 2000 := by
 unfold kidsL kidsO
 cases hn : nodeO O t with
 | none =>
  have e : ofL ([] : List Txt) = [] := List.eq_nil_iff_forall_not_mem.2 fun x hx => by have := ((ofL_spec []).2 x).1 hx; simp at this
  show (ofL ([] : List Txt)).length ≤ 2000
  rw [e]; exact Nat.zero_le _
 | some n => exact (kids_few_Ctd (nodeO_fit hn)).2
structure RchI (O : List Ob) (F : List Txt) (i : Nat) (Q : List Txt) (c : Bool) : Prop where
 nodup : Q.Nodup
 sub : ∀ t ∈ Q, ReachO O F t
 start : ∀ t ∈ F, t.length = 32 → t ∈ Q
 le : i ≤ Q.length
 kids : ∀ t ∈ Q.take i, ∀ u ∈ kidsO O t, u ∈ Q
 wh : c = true ↔ ∀ t ∈ Q.take i, (nodeO O t).isSome = true
theorem rchI_zero (O : List Ob) (F : List Txt) : RchI O F 0 (ofL F) true :=
 ⟨rises_nodup (ofL_spec F).1, fun t ht => .start (((ofL_spec F).2 t).1 ht).1 (((ofL_spec F).2 t).1 ht).2, fun t h1 h2 => ((ofL_spec F).2 t).2 ⟨h1, h2⟩, Nat.zero_le _, fun t h => by simp at h, by simp⟩
theorem take_one {Q : List Txt} {i : Nat} (h : i < Q.length) {t : Txt} (ht : t ∈ Q.take (i + 1)) : t ∈ Q.take i ∨ t = Q[i] := by
 rw [List.take_succ_eq_append_getElem h] at ht
 rcases List.mem_append.1 ht with ht | ht
 ·exact .inl ht
 ·exact .inr (List.mem_singleton.1 ht)
theorem rchI_bad {O : List Ob} {F : List Txt} {i : Nat} {Q : List Txt} {c : Bool} (h : RchI O F i Q c) (hi : i < Q.length) (hx : nodeO O Q[i] = none) : RchI O F (i + 1) Q false := by
 refine ⟨h.nodup, h.sub, h.start, hi, fun t ht u hu => ?_, ?_⟩
 ·rcases take_one hi ht with ht | rfl
  ·exact h.kids t ht u hu
  ·rw [kidsO_none hx] at hu; cases hu
 ·constructor
  ·intro e; cases e
  ·intro e
   have := e Q[i] (by rw [List.take_succ_eq_append_getElem hi]; exact List.mem_append_right _ (List.mem_singleton.2 rfl))
   rw [hx] at this; cases this
theorem rchI_good {O : List Ob} {F : List Txt} {i : Nat} {Q : List Txt} {c : Bool} {n : Nd} (h : RchI O F i Q c) (hi : i < Q.length) (hx : nodeO O Q[i] = some n) : RchI O F (i + 1) (addQ Q (ofL (kidsN n))) c := by
 obtain ⟨R, hR⟩ := addQ_grows (L := ofL (kidsN n)) (Q := Q)
 have ht1 : (addQ Q (ofL (kidsN n))).take (i + 1) = Q.take (i + 1) := by rw [hR, List.take_append_of_le_length hi]
 have hqi : Q[i] ∈ Q := List.getElem_mem hi
 refine ⟨addQ_nodup h.nodup, fun t ht => ?_, fun t h1 h2 => mem_addQ.2 (.inl (h.start t h1 h2)), by rw [hR, List.length_append]; omega, fun t ht u hu => ?_, ?_⟩
 ·rcases mem_addQ.1 ht with ht | ht
  ·exact h.sub t ht
  ·refine .kid (h.sub _ hqi) ?_
   rw [kidsO_of hx]
   exact (((ofL_spec _).2 t).1 ht).1
 ·rw [ht1] at ht
  rcases take_one hi ht with ht | rfl
  ·exact mem_addQ.2 (.inl (h.kids t ht u hu))
  ·have hl := kidsO_len hu
   rw [kidsO_of hx] at hu
   exact mem_addQ.2 (.inr (((ofL_spec _).2 u).2 ⟨hu, hl⟩))
 ·rw [ht1, h.wh]
  constructor
  ·intro e t ht
   rcases take_one hi ht with ht | rfl
   ·exact e t ht
   ·rw [hx]; rfl
  ·exact fun e t ht => e t (by rw [List.take_succ_eq_append_getElem hi]; exact List.mem_append_left _ ht)
theorem rchI_done {O : List Ob} {F : List Txt} {Q : List Txt} {c : Bool} (h : RchI O F Q.length Q c) : (∀ t, t ∈ Q ↔ ReachO O F t) ∧ (c = true ↔ WholeO O F) := by
 have hk := h.kids; have hw := h.wh
 rw [List.take_length] at hk hw
 have hm : ∀ t, t ∈ Q ↔ ReachO O F t := fun t => ⟨h.sub t, fun hr => by
  induction hr with
  | start h1 h2 => exact h.start _ h1 h2
  | kid _ h2 ih => exact hk _ ih _ h2⟩
 refine ⟨hm, ?_⟩
 rw [hw]
 exact ⟨fun e t ht => e t ((hm t).2 ht), fun e t ht => e t ((hm t).1 ht)⟩
theorem addQ_len_Ctd {Q L U : List Txt} (hn : Q.Nodup) (h : ∀ t ∈ Q, t ∈ U) (hl : ∀ t ∈ L, t ∈ U) (j : Nat) : (addQ Q (L.take j)).length ≤ U.length :=
 nodup_len (addQ_nodup hn) fun t ht => (mem_addQ.1 ht).elim (h t) fun h2 => hl t (List.mem_of_mem_take h2)
theorem ofL_reach {O : List Ob} {F Q : List Txt} (h : ∀ t, t ∈ Q ↔ ReachO O F t) : Rises (ofL Q) ∧ ∀ t, t ∈ ofL Q ↔ ReachO O F t :=
 ⟨(ofL_spec Q).1, fun t => by rw [(ofL_spec Q).2, h]; exact ⟨fun h => h.1, fun h => ⟨h, reach_len h⟩⟩⟩
end Go.Proofs.YtokknppjeckppaaGreatDoor
set_option linter.unusedVariables false
namespace Go.Proofs.YtokknppjeckppaaGreatDoor
open Go Go.RowKit
attribute [local go_sem] Oper.semAt_some
set_option maxRecDepth 100000 in
set_option maxHeartbeats 4000000 in
theorem tnames_any (vO : Value) (mb : Option Nat) (O : List Ob) (s : ByteArray) (w : World) (h : IsObs w vO O) (hr : RiseO O) (hl : O.length ≤ 1000000) (hz : ∀ y ∈ O, y.r.size ≤ 1000000) (hT : ErrT w) :
  Calls Tryz.prog 79 #[.agg #[vO, .map mb], .string s] w (RetOwn w (kidsL O s.data.toList)) := by
 have hz1 := got_size (t := s.data.toList) hr hz
 have HG : Hid (∀ (n : Nd) (e : Int), RdOk (gotO O s.data.toList).data.toList n e → ofL (kidsN n) = kidsL O s.data.toList ∧ n.ps.length + n.es.length ≤ 2000) := Lib.hid (fun n e h => kids_gotL h)
 obtain ⟨_, ao, co, hvo, _, _⟩ := id h
 obtain ⟨z, hzl⟩ : ∃ z, z = O.length := ⟨_, rfl⟩
 rw [← hzl] at hvo
 subst hvo
 have hb0 : Below w.heap.size w (w.alloc (.cells #[.slice ao z co, .map mb] 69)) := (Below.refl _ _).alloc (Nat.le_refl _) _
 have CG := Lib.hid (pGet_any _ O s _ (h.stays hb0) hr hl)
 have CR := Lib.hid (fun W (hW : ErrT W) => pRead_any (gotO O s.data.toList) hz1 W hW)
 have HB0 := Lib.hid hb0; have HT := Lib.hid hT
 obtain ⟨x, hx⟩ : ∃ x, x = gotO O s.data.toList := ⟨_, rfl⟩
 obtain ⟨b, hbb⟩ : ∃ b, b = (getO O s.data.toList).isSome := ⟨_, rfl⟩
 obtain ⟨K, hK⟩ : ∃ K, K = kidsL O s.data.toList := ⟨_, rfl⟩
 rw [← hx] at CG CR HG; rw [← hbb] at CG; rw [← hK] at HG ⊢
 clear h hr hl hz hT hz1 hzl hb0 hx hbb hK
 go_enter Tryz.func79, Tryz.ntmps79
 go_wp2_with fail
 refine CG.out.mono ?_
 rintro e w1 ⟨rfl, hb1⟩
 have HB1 := Lib.hid (below_step HB0.out hb1)
 have C1 := Lib.hid (CR.out w1 (HT.out.stays HB1.out))
 clear hb1
 go_wp2_with fail
 refine C1.out.mono ?_
 rintro e w2 ⟨n, k, hrd, pv, ev, rfl, hp, he, hb2⟩
 obtain ⟨g1, g2⟩ := HG.out n k hrd
 have HB2 := Lib.hid (below_step HB1.out hb2)
 obtain ⟨_, a1, cap1, hv1, _, _⟩ := id hp
 obtain ⟨_, a2, cap2, hv2, _, _⟩ := id he
 obtain ⟨z1, hz1⟩ : ∃ z, z = n.ps.length := ⟨_, rfl⟩
 obtain ⟨z2, hz2⟩ : ∃ z, z = n.es.length := ⟨_, rfl⟩
 rw [← hz1] at hv1; rw [← hz2] at hv2
 subst hv1 hv2
 have hb3 : Below w2.heap.size w2 (w2.alloc (.cells #[.int .i64 n.kd, .string n.d, .slice a1 z1 cap1, .slice a2 z2 cap2] 53)) := (Below.refl _ _).alloc (Nat.le_refl _) _
 have CK := pKids_own n _ _ _ (hp.stays hb3) (he.stays hb3) (Nat.le_trans g2 (by decide))
 rw [g1] at CK
 have HCK := Lib.hid CK
 have HB3 := Lib.hid (below_step HB2.out hb3)
 clear hrd hp he hb2 g1 g2 CK hz1 hz2 hb3
 go_wp2_with fail
 refine HCK.out.mono ?_
 rintro e w3 ⟨v, rfl, ho, hb4⟩
 have HO := Lib.hid (ho.low_Ned HB3.out.size); have HB4 := Lib.hid (below_step HB3.out hb4)
 clear ho hb4
 go_wp2
 go_ret
 exact ⟨v, rfl, HO.out, HB4.out⟩
set_option maxRecDepth 100000 in
set_option maxHeartbeats 4000000 in
theorem rkids_any (vO : Value) (O : List Ob) (s : ByteArray) (w : World) (h : IsObs w vO O) (hr : RiseO O) (hz : ∀ y ∈ O, y.r.size ≤ 1000000) :
  Calls Tryz.prog 40 #[vO, .string s] w (RetOwn w (kidsL O s.data.toList)) := by
 have hz1 := got_size (t := s.data.toList) hr hz
 have HG : Hid (∀ (n : Nd) (e : Int), RdOk (gotO O s.data.toList).data.toList n e → ofL (kidsN n) = kidsL O s.data.toList ∧ n.ps.length + n.es.length ≤ 2000) := Lib.hid (fun n e h => kids_gotL h)
 have CG := Lib.hid (rGet_any _ O s _ h)
 have CR := Lib.hid (fun W => rRead_any (gotO O s.data.toList) hz1 W)
 obtain ⟨_, ao, co, hvo, _, _⟩ := h
 obtain ⟨z, hzl⟩ : ∃ z, z = O.length := ⟨_, rfl⟩
 rw [← hzl] at hvo
 subst hvo
 obtain ⟨x, hx⟩ : ∃ x, x = gotO O s.data.toList := ⟨_, rfl⟩
 obtain ⟨b, hbb⟩ : ∃ b, b = (getO O s.data.toList).isSome := ⟨_, rfl⟩
 obtain ⟨K, hK⟩ : ∃ K, K = kidsL O s.data.toList := ⟨_, rfl⟩
 rw [← hx] at CG CR HG; rw [← hbb] at CG; rw [← hK] at HG ⊢
 clear hr hz hz1 hzl hx hbb hK
 go_enter Tryz.func40, Tryz.ntmps40
 go_wp2_with fail
 refine CG.out.mono ?_
 rintro e w1 ⟨rfl, hb1⟩
 have HB1 := Lib.hid hb1
 have C1 := Lib.hid (CR.out w1)
 clear hb1
 go_wp2_with fail
 refine C1.out.mono ?_
 rintro e w2 ⟨n, k, hrd, pv, ev, rfl, hp, he, hb2⟩
 obtain ⟨g1, g2⟩ := HG.out n k hrd
 have HB2 := Lib.hid (below_step HB1.out hb2)
 obtain ⟨_, a1, cap1, hv1, _, _⟩ := id hp
 obtain ⟨_, a2, cap2, hv2, _, _⟩ := id he
 obtain ⟨z1, hz1⟩ : ∃ z, z = n.ps.length := ⟨_, rfl⟩
 obtain ⟨z2, hz2⟩ : ∃ z, z = n.es.length := ⟨_, rfl⟩
 rw [← hz1] at hv1; rw [← hz2] at hv2
 subst hv1 hv2
 have hb3 : Below w2.heap.size w2 (w2.alloc (.cells #[.int .i64 n.kd, .string n.d, .slice a1 z1 cap1, .slice a2 z2 cap2] 53)) := (Below.refl _ _).alloc (Nat.le_refl _) _
 have CK := rKids_own n _ _ _ (hp.stays hb3) (he.stays hb3) g2
 rw [g1] at CK
 have HCK := Lib.hid CK
 have HB3 := Lib.hid (below_step HB2.out hb3)
 clear hrd hp he hb2 g1 g2 CK hz1 hz2 hb3
 go_wp2_with fail
 refine HCK.out.mono ?_
 rintro e w3 ⟨v, rfl, ho, hb4⟩
 have HO := Lib.hid (ho.low_Ned HB3.out.size); have HB4 := Lib.hid (below_step HB3.out hb4)
 clear ho hb4
 go_wp2
 go_ret
 exact ⟨v, rfl, HO.out, HB4.out⟩
structure RqL (w w2 : World) (Q L : List Txt) (vk u : Value) (m : Nat) (wr : World) : Prop where
 que : OwnTxt w wr u (addQ Q (L.take m))
 lst : OwnTxt w2 wr vk L
 ap : ∀ g, vk.ownBlock = some g → u.ownBlock ≠ some g
 below : Below w.heap.size w wr
theorem RqL.zero {w w2 wr : World} {Q L : List Txt} {vk u : Value} (hu : OwnTxt w w2 u Q) (hb : Below w2.heap.size w2 wr) (hB : Below w.heap.size w w2) (hk : OwnTxt w2 wr vk L) : RqL w w2 Q L vk u 0 wr :=
 ⟨hu.stays hb, hk, fun g hg e => by
  have h1 := (World.ownsRow.lt hu g e).2
  have h2 := (World.ownsRow.lt hk g hg).1
  omega, below_step hB hb⟩
theorem RqL.stays {w w2 wr wr' : World} {Q L : List Txt} {vk u : Value} {m : Nat} (h : RqL w w2 Q L vk u m wr) (hb : Below wr.heap.size wr wr') : RqL w w2 Q L vk u m wr' :=
 ⟨h.que.stays hb, h.lst.stays hb, h.ap, below_step h.below hb⟩
theorem RqL.more {w w2 wr wr' : World} {Q L : List Txt} {vk u u' : Value} {m : Nat} {t : Txt} (h : RqL w w2 Q L vk u m wr) (ho : OwnTxt w wr' u' (addQ Q (L.take m) ++ [t])) (hg : wr.grownBy wr' u.ownBlock)
  (hat : u'.ownBlock = u.ownBlock ∨ ∃ g, u'.ownBlock = some g ∧ wr.heap.size ≤ g) (he : addQ Q (L.take (m + 1)) = addQ Q (L.take m) ++ [t]) : RqL w w2 Q L vk u' (m + 1) wr' := by
 refine ⟨by rw [he]; exact ho, World.ownsRow.kept h.lst hg (by
  cases hv : vk.ownBlock with
  | none => exact .inl rfl
  | some g => exact .inr (fun e => h.ap g hv e.symm)), fun g hvg => ?_, h.below.grown hg h.below.size (fun j hj => (World.ownsRow.lt h.que j hj).1)⟩
 rcases hat with e | ⟨g', e, hlt⟩
 ·rw [e]; exact h.ap g hvg
 ·rw [e]
  intro e2
  cases e2
  have := (World.ownsRow.lt h.lst g hvg).2
  omega
theorem RqL.skip {w w2 wr : World} {Q L : List Txt} {vk u : Value} {m : Nat} (h : RqL w w2 Q L vk u m wr) (he : addQ Q (L.take (m + 1)) = addQ Q (L.take m)) : RqL w w2 Q L vk u (m + 1) wr := ⟨by rw [he]; exact h.que, h.lst, h.ap, h.below⟩
set_option maxRecDepth 100000 in
set_option maxHeartbeats 16000000 in
theorem rReach_any (vO fv : Value) (O : List Ob) (F : List ByteArray) (w : World) (h : IsObs w vO O) (hr : RiseO O) (hz : ∀ y ∈ O, y.r.size ≤ 1000000) (hf : IsStrs w fv F) (hF : F.length ≤ 700000)
  (U : List Txt) (hU : ∀ t, ReachO O (txts F) t → t ∈ U) (hUl : U.length ≤ 700000) :
  Calls Tryz.prog 23 #[vO, fv] w (RetReach O (txts F) w) := by
 have CO := Lib.hid (refOf_own fv F w hf (by omega))
 have HI := Lib.hid h; have HR := Lib.hid hr; have HZ := Lib.hid hz; have HU := Lib.hid hU
 have HR0 := Lib.hid (rchI_zero O (txts F))
 obtain ⟨_, ao, co, hvo, _, _⟩ := h
 obtain ⟨_, af, cf, hvf, _, _⟩ := hf
 obtain ⟨zo, hzo⟩ : ∃ z, z = O.length := ⟨_, rfl⟩
 obtain ⟨zf, hzf⟩ : ∃ z, z = F.length := ⟨_, rfl⟩
 obtain ⟨zu, hzu⟩ : ∃ z, z = U.length := ⟨_, rfl⟩
 rw [← hzo] at hvo; rw [← hzf] at hvf; rw [← hzu] at hUl
 have HZU := Lib.hid hzu
 subst hvo hvf
 obtain ⟨G, hG⟩ : ∃ G, G = txts F := ⟨_, rfl⟩
 rw [← hG] at CO HU HR0 ⊢
 clear hr hz hU hzo hzf hF hG hzu
 go_enter Tryz.func23, Tryz.ntmps23
 go_wp2_with fail
 refine CO.out.mono ?_
 rintro e w1 ⟨vq, rfl, ho, hb1⟩
 have HO1 := Lib.hid ho; have HB1 := Lib.hid hb1
 clear ho hb1
 go_wp2_with fail
 go_loopw [6, 7, 8] (fun q c i wr => ∃ (j : Nat) (Q : List Txt) (cb : Bool) (u : Value), i = .int .i64 j ∧ c = .bool cb ∧ u = q ∧ RchI O G j Q cb ∧ OwnTxt w wr u Q ∧ Below w.heap.size w wr) (fun _ _ i _ => zu - (intOf i).toNat)
 case atStart => exact ⟨0, _, true, vq, rfl, rfl, rfl, HR0.out, HO1.out, HB1.out⟩
 case round =>
  obtain ⟨j, Q, cb, u, rfl, rfl, rfl, hI, hO, hB⟩ := hrel
  have HRI := Lib.hid hI; have HOQ := Lib.hid hO; have HB := Lib.hid hB
  have hQU : Q.length ≤ zu := by rw [HZU.out]; exact nodup_len hI.nodup fun t ht => HU.out t (hI.sub t ht)
  have hle := hI.le
  obtain ⟨_, qa, qc, hvq, _, hc⟩ := hO.strs
  rw [strsOf_len] at hvq
  obtain ⟨zq, hzq⟩ : ∃ z, z = Q.length := ⟨_, rfl⟩
  rw [← hzq] at hvq hle hQU
  subst hvq
  have HZQ := Lib.hid hzq
  clear hI hO hB
  by_cases hlt : j < zq
  ·have hjl : j < Q.length := by omega
   obtain ⟨b, off, rfl, hbl, g⟩ := hc (by rw [strsOf_len]; omega)
   have c0 := g j (by rw [strsOf_len]; exact hjl)
   rw [strsOf_get hjl] at c0
   have HBAD := Lib.hid (rchI_bad HRI.out hjl); have HGOOD := Lib.hid (fun n => rchI_good (n := n) HRI.out hjl)
   obtain ⟨t, ht⟩ : ∃ t, t = Q[j] := ⟨_, rfl⟩
   rw [← ht] at c0 HBAD HGOOD
   obtain ⟨x, hx⟩ : ∃ x : ByteArray, x = ⟨t.toArray⟩ := ⟨_, rfl⟩
   rw [← hx] at c0
   have hxt : x.data.toList = t := by rw [hx]
   have CG := rGet_any _ O x wr (HI.out.stays HB.out)
   rw [hxt] at CG
   have HTQ : Hid (t ∈ Q) := Lib.hid (by rw [ht]; exact List.getElem_mem hjl)
   have hbk : decide ((j : Int) < (zq : Int)) = true := by simpa using (show (j : Int) < zq by omega)
   have HXT := Lib.hid hxt
   clear hc g ht hx hxt hjl hzq
   cases hg : getO O t with
   | none =>
    have HN : Hid (nodeO O t = none) := Lib.hid (by unfold nodeO; rw [hg]; rfl)
    rw [hg, gotO_none hg] at CG
    simp only [Option.isSome_none] at CG
    have HCG := Lib.hid CG
    clear hg CG
    have CR := Lib.hid (fun W => rRead_any (⟨#[]⟩ : ByteArray) (by decide) W)
    go_wp2_with fail
    refine HCG.out.mono ?_
    rintro e w2 ⟨rfl, hb2⟩
    have HB2 := Lib.hid hb2
    clear hb2
    go_wp2_with fail
    refine (CR.out w2).mono ?_
    rintro e w3 ⟨n, k, hrd, pv, ev, rfl, hp, he, hb3⟩
    have HB3 := Lib.hid (below_step HB2.out hb3)
    obtain ⟨_, a1, cap1, hv1, _, _⟩ := hp
    obtain ⟨_, a2, cap2, hv2, _, _⟩ := he
    subst hv1 hv2
    have HB4 : Hid (Below wr.heap.size wr (w3.alloc (.cells #[.int .i64 n.kd, .string n.d, .slice a1 n.ps.length cap1, .slice a2 n.es.length cap2] 53))) := Lib.hid (HB3.out.alloc HB3.out.size _)
    clear hrd hb3
    go_wp2
    go_roundw
    case rel => exact ⟨j + 1, Q, false, _, by go_num, rfl, rfl, HBAD.out HN.out, HOQ.out.stays HB4.out, below_step HB.out HB4.out⟩
    case measure => simp [intOf]; omega
   | some y =>
    have hym := (getO_some HR.out).1 hg
    have CR := Lib.hid (fun W => rRead_any y.r (HZ.out y hym.1) W)
    rw [hg, gotO_some hg] at CG
    simp only [Option.isSome_some] at CG
    have HCG := Lib.hid CG; have HGY := Lib.hid hg
    clear hg CG hym
    go_wp2_with fail
    refine HCG.out.mono ?_
    rintro e w2 ⟨rfl, hb2⟩
    have HB2 := Lib.hid hb2
    clear hb2
    go_wp2_with fail
    refine (CR.out w2).mono ?_
    rintro e w3 ⟨n, k, hrd, pv, ev, rfl, hp, he, hb3⟩
    have HB3 := Lib.hid (below_step HB2.out hb3)
    obtain ⟨_, a1, cap1, hv1, _, _⟩ := id hp
    obtain ⟨_, a2, cap2, hv2, _, _⟩ := id he
    obtain ⟨z1, hz1⟩ : ∃ z, z = n.ps.length := ⟨_, rfl⟩
    obtain ⟨z2, hz2⟩ : ∃ z, z = n.es.length := ⟨_, rfl⟩
    rw [← hz1] at hv1; rw [← hz2] at hv2
    subst hv1 hv2
    have hb4 : Below w3.heap.size w3 (w3.alloc (.cells #[.int .i64 n.kd, .string n.d, .slice a1 z1 cap1, .slice a2 z2 cap2] 53)) := (Below.refl _ _).alloc (Nat.le_refl _) _
    have HB4 := Lib.hid (below_step HB3.out hb4)
    rcases readN_rd hrd with ⟨rfl, hn⟩ | ⟨rfl, hzn, hn⟩
    ·have HN : Hid (nodeO O t = some n) := Lib.hid (by unfold nodeO; rw [HGY.out]; exact hn)
     have HFN := Lib.hid (nodeO_fit HN.out)
     have CK := Lib.hid (rKids_own n _ _ _ (hp.stays hb4) (he.stays hb4) (kids_few_Ctd HFN.out).1)
     have HLL := Lib.hid (kids_few_Ctd HFN.out).2
     clear hrd hp he hb3 hz1 hz2 hb4 hn
     go_wp2_with fail
     refine CK.out.mono ?_
     rintro e w5 ⟨vk, rfl, hok, hb5⟩
     have HB5 := Lib.hid (below_step HB4.out hb5)
     have HL0 := Lib.hid (RqL.zero (HOQ.out.stays HB4.out) hb5 (below_step HB.out HB4.out) hok)
     have HUA := Lib.hid (addQ_len_Ctd HRI.out.nodup (fun s hs => HU.out s (HRI.out.sub s hs)) (fun s hs => HU.out s (.kid (HRI.out.sub t HTQ.out) (by rw [kidsO_of HN.out]; exact (((ofL_spec _).2 s).1 hs).1))))
     have HGD := Lib.hid (HGOOD.out n HN.out)
     obtain ⟨L, hL⟩ : ∃ L, L = ofL (kidsN n) := ⟨_, rfl⟩
     rw [← hL] at HL0 HUA HGD HLL
     obtain ⟨_, ka, kc, hvk, _, _⟩ := hok.strs
     rw [strsOf_len, ← hL] at hvk
     obtain ⟨zk, hzk⟩ : ∃ z, z = L.length := ⟨_, rfl⟩
     rw [← hzk] at hvk
     have HZK := Lib.hid hzk
     have hzk2 : zk ≤ 2000 := by rw [hzk]; exact HLL.out
     clear hok hb5 hL hzk
     subst hvk
     go_wp2_with fail
     go_loopw [6, 14] (fun q k wr => ∃ (m : Nat) (u : Value), k = .int .i64 m ∧ m ≤ zk ∧ u = q ∧ RqL w (w3.alloc (.cells #[.int .i64 n.kd, .string n.d, .slice a1 z1 cap1, .slice a2 z2 cap2] 53)) Q L (.slice ka zk kc) u m wr) (fun _ k _ => zk - (intOf k).toNat)
     case atStart => exact ⟨0, _, rfl, Nat.zero_le _, rfl, HL0.out⟩
     case round =>
      clear hbk c0
      obtain ⟨m, u, rfl, hm, rfl, hq⟩ := hrel
      have HQ := Lib.hid hq
      obtain ⟨_, ua, uc, hvu, _, _⟩ := hq.que.strs
      obtain ⟨mu, hmu⟩ : ∃ z, z = (strsOf (addQ Q (L.take m))).length := ⟨_, rfl⟩
      rw [← hmu] at hvu
      have hmu2 : mu ≤ zu := by rw [hmu, strsOf_len, HZU.out]; exact HUA.out m
      have HMU := Lib.hid hmu
      subst hvu
      by_cases hml : m < zk
      ·have hmL : m < L.length := by have := HZK.out; omega
       obtain ⟨_, _, _, hev, _, hc⟩ := hq.lst.strs
       rw [strsOf_len, ← HZK.out] at hev
       cases hev
       obtain ⟨b2, off2, rfl, hbl2, g⟩ := hc (by rw [strsOf_len]; omega)
       have d0 := g m (by rw [strsOf_len]; exact hmL)
       rw [strsOf_get hmL] at d0
       have HST := Lib.hid (addQ_take (Q := Q) hmL)
       obtain ⟨s, hs⟩ : ∃ s, s = L[m] := ⟨_, rfl⟩
       rw [← hs] at d0 HST
       obtain ⟨y, hy⟩ : ∃ y : ByteArray, y = ⟨s.toArray⟩ := ⟨_, rfl⟩
       rw [← hy] at d0
       have hys : y.data.toList = s := by rw [hy]
       have CH := refHas_any _ _ y wr hq.que.strs
       rw [txts_strsOf, hys] at CH
       have HCH := Lib.hid CH; have HYS := Lib.hid hys
       have hbm : decide ((m : Int) < (zk : Int)) = true := by simpa using (show (m : Int) < zk by omega)
       clear hc g hs hy hys CH hq hmu hmL
       by_cases hin : s ∈ addQ Q (L.take m)
       ·rw [show hasB (addQ Q (L.take m)) s = true from decide_eq_true hin] at HCH
        have HS := Lib.hid (HST.out.trans (if_pos hin))
        clear hin
        go_wp2_with fail
        refine HCH.out.mono ?_
        rintro e w6 ⟨rfl, rfl⟩
        go_wp2
        go_roundw
        case rel => exact ⟨m + 1, _, by go_num, by omega, rfl, HQ.out.skip HS.out⟩
        case measure => simp [intOf]; omega
       ·rw [show hasB (addQ Q (L.take m)) s = false from decide_eq_false hin] at HCH
        have HS := Lib.hid (HST.out.trans (if_neg hin))
        have HWS := Lib.hid (HQ.out.below.size)
        clear hin
        go_wp2_with fail
        refine HCH.out.mono ?_
        rintro e w6 ⟨rfl, rfl⟩
        go_wp2_with (at_builtin; refine wpList_append_txt_at rfl _ _ rfl HQ.out.que HWS.out rfl rfl rfl (by rw [strsOf_len] at HMU; rw [← HMU.out]; omega) ?_)
        intro v' w7 ho7 hg7 hat7
        rw [HYS.out] at ho7
        have HQ7 := Lib.hid (HQ.out.more ho7 hg7 hat7 HS.out)
        clear ho7 hg7 hat7
        go_wp2
        go_roundw
        case rel => exact ⟨m + 1, v', by go_num, by omega, rfl, HQ7.out⟩
        case measure => simp [intOf]; omega
      ·have hall : L.take m = L := List.take_of_length_le (by have := HZK.out; omega)
       have hq2 := hq.que
       rw [hall] at hq2
       have HQ2 := Lib.hid hq2
       have hbm : decide ((m : Int) < (zk : Int)) = false := by simp; omega
       clear hall hq2 hq hmu
       go_wp2
       go_roundw
       case rel => exact ⟨j + 1, _, cb, _, by go_num, rfl, rfl, HGD.out, HQ2.out, HQ.out.below⟩
       case measure => simp [intOf]; omega
    ·have HN : Hid (nodeO O t = none) := Lib.hid (by unfold nodeO; rw [HGY.out]; exact hn)
     clear hrd hp he hb3 hz1 hz2 hb4 hn hzn
     go_wp2
     go_roundw
     case rel => exact ⟨j + 1, Q, false, _, by go_num, rfl, rfl, HBAD.out HN.out, HOQ.out.stays HB4.out, below_step HB.out HB4.out⟩
     case measure => simp [intOf]; omega
  ·have hj : j = Q.length := by have := HZQ.out; omega
   have hD := HRI.out
   rw [hj] at hD
   have HD := Lib.hid (rchI_done hD)
   have hbk : decide ((j : Int) < (zq : Int)) = false := by simp; omega
   have CF := refOf_own _ (strsOf Q) wr HOQ.out.strs (by rw [strsOf_len]; have := HZQ.out; omega)
   rw [txts_strsOf] at CF
   have HCF := Lib.hid CF
   clear hj hD hc hzq CF
   go_wp2_with fail
   refine HCF.out.mono ?_
   rintro e w2 ⟨v2, rfl, ho2, hb2⟩
   have HO2 := Lib.hid (ho2.low_Ned HB.out.size); have HB2 := Lib.hid (below_step HB.out hb2)
   obtain ⟨_, va, vc, hv2, _, _⟩ := ho2.strs
   subst hv2
   clear ho2 hb2
   go_wp2
   go_ret2
   exact ⟨_, ofL Q, cb, rfl, HO2.out, (ofL_reach HD.out.1).1, (ofL_reach HD.out.1).2, HD.out.2, HB2.out⟩
def PlusRes (O : List Ob) (C : List Ct) (t : Txt) (C' : List Ct) (ev : Int) : Prop :=
 (ev = 5 ∧ C' = C ∧ ¬ (t.length = 32 ∧ WholeO O [t])) ∨ (ev = 0 ∧ (t.length = 32 ∧ WholeO O [t]) ∧ FitC C' ∧ ∃ F, F.Nodup ∧ (∀ s, s ∈ F ↔ FreshO O (nF C) t s) ∧ ∀ s, nC C' s = (plusF O (nF C) t F s : Nat))
theorem plusRes_one {O : List Ob} {C : List Ct} {t : Txt} {C1 C2 : List Ct} {e1 e2 : Int} (h : PlusRes O C t C1 e1) (k : PlusRes O C t C2 e2) : C1 = C2 ∧ e1 = e2 := by
 rcases h with ⟨rfl, rfl, h1⟩ | ⟨rfl, h1, h2, F, h3, h4, h5⟩ <;> rcases k with ⟨rfl, rfl, k1⟩ | ⟨rfl, k1, k2, G, k3, k4, k5⟩
 ·exact ⟨rfl, rfl⟩
 ·exact absurd k1 h1
 ·exact absurd h1 k1
 ·exact ⟨fitC_ext h2 k2 fun s => by rw [h5, k5, fresh_one h3 k3 h4 k4], rfl⟩
def MinusRes (O : List Ob) (C : List Ct) (t : Txt) (C' : List Ct) (ev : Int) : Prop :=
 (ev = 5 ∧ C' = C ∧ nC C t = 0) ∨ (ev = 0 ∧ nC C t ≠ 0 ∧ FitC C' ∧ ∃ D, DropsO O (nF C) t D ∧ ∀ s, nC C' s = (minusF O (nF C) t D s : Nat))
theorem minusRes_one {O : List Ob} {C : List Ct} {t : Txt} {C1 C2 : List Ct} {e1 e2 : Int} (h : MinusRes O C t C1 e1) (k : MinusRes O C t C2 e2) : C1 = C2 ∧ e1 = e2 := by
 rcases h with ⟨rfl, rfl, h1⟩ | ⟨rfl, h1, h2, F, h3, h4⟩ <;> rcases k with ⟨rfl, rfl, k1⟩ | ⟨rfl, k1, k2, G, k3, k4⟩
 ·exact ⟨rfl, rfl⟩
 ·exact absurd h1 k1
 ·exact absurd k1 h1
 ·exact ⟨fitC_ext h2 k2 fun s => by rw [h4, k4, drops_one h3 k3], rfl⟩
theorem plusI_len {O : List Ob} {C c : List Ct} {r : Txt} {i : Nat} {Q U : List Txt} (h : PlusI O C r i c Q) (hr : r ∈ U) (hk : ∀ j, FreshO O (nF C) r j → ∀ u ∈ kidsO O j, u ∈ U) (hU : U.length ≤ 400) : Q.length ≤ 800001 := by
 obtain ⟨F, hF, hQ, hf, _⟩ := h.que
 have := queC_len (O := O) (r := r) (U := U) hF (fun t ht => by
  cases hf t ht with
  | start _ => exact hr
  | kid h1 h2 _ => exact hk _ h1 _ h2) (kidsL_len O)
 rw [hQ]; omega
theorem plusI_clen {O : List Ob} {C c : List Ct} {r : Txt} {i : Nat} {Q : List Txt} (hC : FitC C) (h : PlusI O C r i c Q) : c.length ≤ C.length + Q.length := by
 have h1 := nodup_len (P := c.map Ct.t) (B := C.map Ct.t ++ Q) (rises_nodup (fitC_rises h.fit)) (fun t ht => by
  obtain ⟨x, hx, rfl⟩ := List.mem_map.1 ht
  have h2 := nC_mem h.fit hx
  have h3 := h.fit.2 x hx
  have h4 := h.n x.t
  by_cases h0 : nC C x.t = 0
  ·refine List.mem_append_right _ ?_
   have : 0 < (Q.take i).count x.t := by omega
   exact List.mem_of_mem_take (List.count_pos_iff.1 this)
  ·exact List.mem_append_left _ ((nF_mem hC x.t).1 (by unfold nF; have := (nC_pos hC (t := x.t)).1; omega)))
 rw [List.length_map, List.length_append, List.length_map] at h1
 exact h1
theorem plusI_max {O : List Ob} {C c : List Ct} {r : Txt} {i : Nat} {Q : List Txt} (hC : FitC C) (hn : ∀ x ∈ C, x.n ≤ 100000000000000) (h : PlusI O C r i c Q) (hq : Q.length ≤ 800001) : ∀ x ∈ c, x.n ≤ 1000000000000000 := fun x hx => by
 have h2 := nC_mem h.fit hx
 have h4 := h.n x.t
 have h5 : (Q.take i).count x.t ≤ Q.length := Nat.le_trans List.count_le_length (by rw [List.length_take]; omega)
 have h6 : nC C x.t ≤ 100000000000000 := by
  by_cases h0 : nC C x.t = 0
  ·rw [h0]; decide
  ·obtain ⟨y, hy, e⟩ := nC_some h0
   rw [← e, nC_mem hC hy]; exact hn y hy
 omega
theorem minusI_len {O : List Ob} {C c : List Ct} {r : Txt} {i : Nat} {Q : List Txt} (hC : FitC C) (h : MinusI O C r i c Q) (hU : C.length ≤ 400) : Q.length ≤ 800001 := by
 obtain ⟨D, hD, hQ, _, hm⟩ := h.que
 have := queC_len (O := O) (r := r) (U := C.map Ct.t) hD (fun t ht => (nF_mem hC t).1 (by have := ((hm t).1 ht).1; unfold nF; omega)) (kidsL_len O)
 rw [List.length_map] at this
 rw [hQ]; omega
theorem minusI_clen {O : List Ob} {C c : List Ct} {r : Txt} {i : Nat} {Q : List Txt} (hC : FitC C) (h : MinusI O C r i c Q) : c.length ≤ C.length := by
 have h1 := nodup_len (P := c.map Ct.t) (B := C.map Ct.t) (rises_nodup (fitC_rises h.fit)) (fun t ht => by
  obtain ⟨x, hx, rfl⟩ := List.mem_map.1 ht
  have h2 := nC_mem h.fit hx
  have h3 := h.fit.2 x hx
  have h4 := h.n x.t
  exact (nF_mem hC x.t).1 (by unfold nF; omega))
 rw [List.length_map, List.length_map] at h1
 exact h1
theorem minusI_max {O : List Ob} {C c : List Ct} {r : Txt} {i : Nat} {Q : List Txt} (hC : FitC C) (hn : ∀ x ∈ C, x.n ≤ 1000000000000000) (h : MinusI O C r i c Q) : ∀ x ∈ c, x.n ≤ 1000000000000000 := fun x hx => by
 have h2 := nC_mem h.fit hx
 have h4 := h.n x.t
 have h6 : nC C x.t ≤ 1000000000000000 := by
  by_cases h0 : nC C x.t = 0
  ·rw [h0]; decide
  ·obtain ⟨y, hy, e⟩ := nC_some h0
   rw [← e, nC_mem hC hy]; exact hn y hy
 omega
theorem wpList_append_all_at {ops : Array Oper} {rest : List Oper} {o : Oper} {a : Act} {W w0 : World} {Q : Exit → Act → World → Prop} (hgd : Region.wanted o (yielded ops a.tmps) = true) (s x : Operand)
  (ho : o.op = .call { callee := .builtin .append, args := #[s, x], argTypes := #[23, 23] })
  {v : Value} {M : List (List UInt8)} {y : Value} {L : List ByteArray} (hown : OwnTxt W w0 v M) (hsz : W.heap.size ≤ w0.heap.size) (hL : IsStrs w0 y L) (hs : a.eval s = v) (hx : a.eval x = y) (hlen : M.length + L.length ≤ 1000000)
  (h : ∀ v' w', OwnTxt W w' v' (M ++ txts L) → w0.grownBy w' v.ownBlock → wpList Tryz.prog ops Q rest (a.put o.dst v') w') :
  wpList Tryz.prog ops Q (o :: rest) a w0 := by
 obtain ⟨i0, hi, hz0, hz1, hz2⟩ := info_parts infoStr
 refine wpList_append_strs hgd s x 23 ho W.heap.size 9 i0 (.string ⟨#[]⟩) 16 Tryz.underlying23 hi hz0 hz1 hz2 rfl v (strsOf M) hs hown y L hx hL ?_ ?_ hsz ?_
 ·rw [strsOf_len]; unfold maxLen; omega
 ·rw [strsOf_len]; omega
 ·intro v' w' h1 h2
  refine h v' w' ?_ h2
  unfold OwnTxt; rw [strsOf_app, strsOf_txts]; exact h1
theorem own_one (w : World) (k : ByteArray) : OwnTxt w (w.alloc (.cells #[.string k] 9)) (.slice (some ⟨w.heap.size, 0, none⟩) 1 1) [k.data.toList] := by
 unfold OwnTxt
 refine ⟨by simp [strsOf, strCells], .inr ⟨w.heap.size, 1, #[.string k], rfl, Nat.le_refl _, Row.made _ _ _, ?_⟩⟩
 simp [strsOf, strCells, maxLen]
structure MvI (w : World) (vc : Value) (C : List Ct) (c : List Ct) (Q : List Txt) (u v : Value) (wr : World) : Prop where
 cts : AnyC w vc C wr u c
 que : OwnTxt w wr v Q
theorem MvI.stays {w wr wr' : World} {vc u v : Value} {C c : List Ct} {Q : List Txt} (h : MvI w vc C c Q u v wr) (hb : Below wr.heap.size wr wr') : MvI w vc C c Q u v wr' := ⟨h.cts.stays hb, h.que.stays hb⟩
theorem MvI.change {w wr wr' : World} {vc u v u' : Value} {C c c' : List Ct} {Q : List Txt} (h : MvI w vc C c Q u v wr) (hb : Below wr.heap.size wr wr') (ho : OwnC wr.heap.size wr' u' c') : MvI w vc C c' Q u' v wr' :=
 ⟨h.cts.next hb (.inr ho), h.que.stays hb⟩
theorem MvI.more {w wr wr' : World} {vc u v v' : Value} {C c : List Ct} {Q Q' : List Txt} (h : MvI w vc C c Q u v wr) (hg : wr.grownBy wr' v.ownBlock) (ho : OwnTxt w wr' v' Q') : MvI w vc C c Q' u v' wr' :=
 ⟨h.cts.turn hg (fun g hg => by
  obtain ⟨h1, xs, h2⟩ := OwnTxt.row h.que hg
  exact ⟨h1, xs, _, h2, by decide⟩), ho⟩
theorem whole_in {O : List Ob} (hr : RiseO O) {R : List Txt} (hw : WholeO O R) {t : Txt} (h : ReachO O R t) : t ∈ O.map Ob.t := by
 have := hw t h
 unfold nodeO at this
 cases hg : getO O t with
 | none => rw [hg] at this; cases this
 | some y =>
  obtain ⟨h1, h2⟩ := (getO_some hr).1 hg
  exact List.mem_map.2 ⟨y, h1, h2⟩
theorem sub_reach {O : List Ob} {f : Txt → Nat} {r : Txt} (hr : r.length = 32) {t : Txt} (h : FreshO O f r t) : ReachO O [r] t := by
 induction h with
 | start _ => exact .start (List.mem_singleton.2 rfl) hr
 | kid _ h2 _ ih => exact .kid ih h2
set_option maxRecDepth 100000 in
set_option maxHeartbeats 16000000 in
theorem rPlus_any (vc vO : Value) (C : List Ct) (O : List Ob) (k : ByteArray) (w : World) (h : IsObs w vO O) (hr : RiseO O) (hz : ∀ y ∈ O, y.r.size ≤ 1000000) (hc : IsCts w vc C) (hC : FitC C) (hn : ∀ x ∈ C, x.n ≤ 100000000000000) (hCl : C.length ≤ 90000) (hOl : O.length ≤ 400)
  (U : List Txt) (hU : ∀ t, ReachO O [k.data.toList] t → t ∈ U) (hUl : U.length ≤ 700000) :
  Calls Tryz.prog 18 #[vc, vO, .string k] w fun e w' => ∃ v' C' ev, e = .returned (.tuple #[v', .int .i64 ev]) ∧ IsCts w' v' C' ∧ PlusRes O C k.data.toList C' ev ∧ Below w.heap.size w w' := by
 have hb0 : Below w.heap.size w (w.alloc (.cells #[.string k] 9)) := (Below.refl _ _).alloc (Nat.le_refl _) _
 have CR := Lib.hid (rReach_any vO (.slice (some ⟨w.heap.size, 0, none⟩) 1 1) O [k] (w.alloc (.cells #[.string k] 9)) (h.stays hb0) hr hz (by
  have := (own_one w k).strs; simpa [strsOf] using this) (by simp) U (by simpa [txts] using hU) hUl)
 have HOL := Lib.hid hOl
 have HB0 := Lib.hid hb0
 have HI := Lib.hid h; have HR := Lib.hid hr; have HZ := Lib.hid hz; have HCI := Lib.hid hc; have HC := Lib.hid hC; have HN := Lib.hid hn; have HU := Lib.hid hU; have HUL := Lib.hid hUl; have HCL := Lib.hid hCl
 obtain ⟨_, ao, co, hvo, _, _⟩ := h
 obtain ⟨_, ac, cc, hvc, _, _⟩ := hc
 obtain ⟨zo, hzo⟩ : ∃ z, z = O.length := ⟨_, rfl⟩
 obtain ⟨zc, hzc⟩ : ∃ z, z = C.length := ⟨_, rfl⟩
 rw [← hzo] at hvo; rw [← hzc] at hvc
 subst hvo hvc
 obtain ⟨r, hrk⟩ : ∃ r, r = k.data.toList := ⟨_, rfl⟩
 have HRK := Lib.hid hrk
 rw [show txts [k] = [r] by simp [txts, hrk]] at CR
 rw [← hrk] at HU ⊢
 clear hr hz hC hn hU hUl hCl hOl hzo hzc hb0 hrk
 go_enter Tryz.func18, Tryz.ntmps18
 go_wp2_with fail
 refine CR.out.mono ?_
 rintro e w1 ⟨va, A, cb, rfl, hoA, hAr, hAm, hAc, hb1⟩
 have HB1 := Lib.hid (below_step HB0.out hb1)
 obtain ⟨_, aa, ca, hva, _, _⟩ := hoA.strs
 rw [strsOf_len] at hva
 obtain ⟨za, hza⟩ : ∃ z, z = A.length := ⟨_, rfl⟩
 rw [← hza] at hva
 subst hva
 have h32 : za = 0 ↔ r.length ≠ 32 := by
  rw [hza, List.length_eq_zero_iff]
  constructor
  ·intro e h; have := (hAm r).2 (.start (List.mem_singleton.2 rfl) h); rw [e] at this; cases this
  ·intro e
   refine List.eq_nil_iff_forall_not_mem.2 fun t ht => ?_
   have := (hAm t).1 ht
   clear ht
   induction this with
   | start h1 h2 => rw [List.mem_singleton.1 h1] at h2; exact e h2
   | kid _ _ ih => exact ih
 by_cases hok : r.length = 32 ∧ WholeO O [r]
 ·have q1 : cb = true := hAc.2 hok.2
  have q2 : ((za : Int) == 0) = false := beq_eq_false_iff_ne.2 (by have : za ≠ 0 := fun e => h32.1 e hok.1; omega)
  have HOK := Lib.hid hok
  subst q1
  have HFR : Hid (∀ j, FreshO O (nF C) r j → ∀ u ∈ kidsO O j, u ∈ O.map Ob.t) := Lib.hid (fun j hj u hu => whole_in HR.out hok.2 (.kid (sub_reach hok.1 hj) hu))
  have HRU : Hid (r ∈ O.map Ob.t) := Lib.hid (whole_in HR.out hok.2 (.start (List.mem_singleton.2 rfl) hok.1))
  have HUL4 : Hid ((O.map Ob.t).length ≤ 400) := Lib.hid (by rw [List.length_map]; exact HOL.out)
  have HP0 := Lib.hid (plus_zero (O := O) (r := r) HC.out)
  clear h32 hok hAc hAr hAm hoA hb1 hza
  have HMV : Hid (MvI w (.slice ac zc cc) C C [r] (.slice ac zc cc) (.slice (some ⟨w1.heap.size, 0, none⟩) 1 1) (w1.alloc (.cells #[.string k] 9))) := Lib.hid ⟨(AnyC.of HCI.out).stays (HB1.out.alloc HB1.out.size _), by
   rw [HRK.out]; exact (own_one w1 k).low_Ned HB1.out.size⟩
  go_wp2_with fail
  go_loopw [0, 10, 11] (fun c q i wr => ∃ (j : Nat) (C' : List Ct) (Q : List Txt) (u v : Value), i = .int .i64 j ∧ u = c ∧ v = q ∧ PlusI O C r j C' Q ∧ MvI w (.slice ac zc cc) C C' Q u v wr) (fun _ _ i _ => 800002 - (intOf i).toNat)
  case atStart => exact ⟨0, C, [r], _, _, rfl, rfl, rfl, HP0.out, HMV.out⟩
  case round =>
   obtain ⟨j, C', Q, u, v, rfl, rfl, rfl, hP, hM⟩ := hrel
   have HP := Lib.hid hP; have HM := Lib.hid hM
   have hql := plusI_len hP HRU.out HFR.out HUL4.out
   have hcl := plusI_clen HC.out hP
   have HMX := Lib.hid (plusI_max HC.out HN.out hP hql)
   have hle := hP.le
   have hcc : C'.length ≤ 900000 := by have := HCL.out; omega
   have HCC := Lib.hid hcc
   obtain ⟨_, qa, qc, hvq, _, hc⟩ := hM.que.strs
   rw [strsOf_len] at hvq
   obtain ⟨_, xa, xc, hvu, _, _⟩ := hM.cts.is
   obtain ⟨zq, hzq⟩ : ∃ z, z = Q.length := ⟨_, rfl⟩
   obtain ⟨zu, hzu⟩ : ∃ z, z = C'.length := ⟨_, rfl⟩
   rw [← hzq] at hvq hle hql; rw [← hzu] at hvu
   subst hvq hvu
   have HZQ := Lib.hid hzq
   clear hP hcl hcc hzu
   by_cases hlt : j < zq
   ·have hjl : j < Q.length := by omega
    obtain ⟨b, off, rfl, hbl, g⟩ := hc (by rw [strsOf_len]; omega)
    have c0 := g j (by rw [strsOf_len]; exact hjl)
    rw [strsOf_get hjl] at c0
    obtain ⟨t, ht⟩ : ∃ t, t = Q[j] := ⟨_, rfl⟩
    rw [← ht] at c0
    obtain ⟨x, hx⟩ : ∃ x : ByteArray, x = ⟨t.toArray⟩ := ⟨_, rfl⟩
    rw [← hx] at c0
    have hxt : x.data.toList = t := by rw [hx]
    have HST := Lib.hid (plus_step HC.out HP.out hjl (key := x) (by rw [hxt, ht]))
    rw [hxt, ← ht] at HST
    have CN := Lib.hid (fun W hW => rN_any (.slice xa zu xc) C' x W hW)
    rw [hxt] at CN
    have CC := Lib.hid (fun W hW => rchange_any (.slice xa zu xc) C' x 1 W hW HP.out.fit HCC.out HMX.out (by decide) (by decide))
    have CK := Lib.hid (fun W hW => rkids_any (.slice ao zo co) O x W hW HR.out HZ.out)
    rw [hxt] at CK
    have hbk : decide ((j : Int) < (zq : Int)) = true := by simpa using (show (j : Int) < zq by omega)
    have CN1 := Lib.hid (CN.out wr hM.cts.is)
    have HWB := Lib.hid hM.cts.1
    have HQK := Lib.hid (kidsL_len O t)
    clear hc g hx ht hM hzq hjl
    by_cases h0 : nC C' t = 0
    ·rw [h0] at CN1
     have HS : Hid (PlusI O C r (j + 1) (changeC C' x 1) (Q ++ kidsL O t)) := Lib.hid (by have := HST.out; rwa [if_pos h0] at this)
     clear h0
     go_wp2_with fail
     refine CN1.out.mono ?_
     rintro e w2 ⟨rfl, hb2⟩
     have HM2 := Lib.hid (HM.out.stays hb2)
     have c2 := (hb2.cell (p := ⟨b, off + j, none⟩) hbl).trans c0
     have hbl2 := Nat.lt_of_lt_of_le hbl hb2.size
     have CC1 := Lib.hid (CC.out w2 HM2.out.cts.is)
     have HWB2 := Lib.hid (below_step HWB.out hb2)
     clear hb2 c0 hbl
     go_wp2_with fail
     refine CC1.out.mono ?_
     rintro e w3 ⟨u3, rfl, ho3, hb3⟩
     have HM3 := Lib.hid (HM2.out.change hb3 ho3)
     have c3 := (hb3.cell (p := ⟨b, off + j, none⟩) hbl2).trans c2
     have hbl3 := Nat.lt_of_lt_of_le hbl2 hb3.size
     have HWB3 := Lib.hid (below_step HWB2.out hb3)
     have CK1 := Lib.hid (CK.out w3 (HI.out.stays HWB3.out))
     clear hb3 c2 hbl2 ho3
     go_wp2_with fail
     refine CK1.out.mono ?_
     rintro e w4 ⟨v4, rfl, ho4, hb4⟩
     have HM4 := Lib.hid (HM3.out.stays hb4)
     have HS4 := Lib.hid ho4.strs
     obtain ⟨_, ka, kc, hvk, _, _⟩ := ho4.strs
     rw [strsOf_len] at hvk
     obtain ⟨zk, hzk⟩ : ∃ z, z = (kidsL O t).length := ⟨_, rfl⟩
     rw [← hzk] at hvk
     have HWB4 := Lib.hid (below_step HWB3.out hb4)
     subst hvk
     have HLL : Hid (Q.length + (strsOf (kidsL O t)).length ≤ 1000000) := Lib.hid (by rw [strsOf_len, ← HZQ.out]; have := HQK.out; omega)
     clear ho4 hb4 c3 hbl3 hzk
     go_wp2_with (at_builtin; refine wpList_append_all_at (by kernel_rfl) _ _ rfl HM4.out.que HWB4.out.size HS4.out rfl rfl HLL.out ?_)
     intro v5 w5 ho5 hg5
     rw [txts_strsOf] at ho5
     have HM5 := Lib.hid (HM4.out.more hg5 ho5)
     clear ho5 hg5
     go_wp2
     go_roundw
     case rel => exact ⟨j + 1, _, _, u3, v5, by go_num, rfl, rfl, HS.out, HM5.out⟩
     case measure => simp [intOf]; omega
    ·have q0 : (nC C' t == 0) = false := beq_eq_false_iff_ne.2 h0
     have HS : Hid (PlusI O C r (j + 1) (changeC C' x 1) Q) := Lib.hid (by have := HST.out; rwa [if_neg h0] at this)
     obtain ⟨nn, hnn⟩ : ∃ nn, nn = nC C' t := ⟨_, rfl⟩
     rw [← hnn] at q0 CN1
     clear h0 hnn
     go_wp2_with fail
     refine CN1.out.mono ?_
     rintro e w2 ⟨rfl, hb2⟩
     have HM2 := Lib.hid (HM.out.stays hb2)
     have c2 := (hb2.cell (p := ⟨b, off + j, none⟩) hbl).trans c0
     have hbl2 := Nat.lt_of_lt_of_le hbl hb2.size
     have CC1 := Lib.hid (CC.out w2 HM2.out.cts.is)
     clear hb2 c0 hbl
     go_wp2_with fail
     refine CC1.out.mono ?_
     rintro e w3 ⟨u3, rfl, ho3, hb3⟩
     have HM3 := Lib.hid (HM2.out.change hb3 ho3)
     clear hb3 c2 hbl2 ho3
     go_wp2
     go_roundw
     case rel => exact ⟨j + 1, _, _, u3, _, by go_num, rfl, rfl, HS.out, HM3.out⟩
     case measure => simp [intOf]; omega
   ·have hj : j = Q.length := by have := HZQ.out; omega
    have hD := HP.out
    rw [hj] at hD
    have HD := Lib.hid (plus_done HC.out hD)
    have hbk : decide ((j : Int) < (zq : Int)) = false := by simp; omega
    have HIS := Lib.hid hM.cts.is; have HBE := Lib.hid hM.cts.1
    clear hj hD hc hzq hM
    go_wp2
    go_ret2
    exact ⟨_, C', 0, rfl, HIS.out, .inr ⟨rfl, HOK.out, HD.out⟩, HBE.out⟩
 ·have HNO := Lib.hid hok
  by_cases hc : cb = true
  ·have hz0 : za = 0 := h32.2 (fun h => hok ⟨h, hAc.1 hc⟩)
   have q2 : ((za : Int) == 0) = true := by rw [hz0]; rfl
   subst hc
   clear h32 hok hAc hAr hAm hoA hb1 hz0 hza
   go_wp2
   go_ret2
   exact ⟨_, C, 5, rfl, HCI.out.stays HB1.out, .inl ⟨rfl, rfl, HNO.out⟩, HB1.out⟩
  ·have hc2 : cb = false := by simpa using hc
   subst hc2
   clear h32 hok hAc hAr hAm hoA hb1 hc hza
   go_wp2
   go_ret2
   exact ⟨_, C, 5, rfl, HCI.out.stays HB1.out, .inl ⟨rfl, rfl, HNO.out⟩, HB1.out⟩
set_option maxRecDepth 100000 in
set_option maxHeartbeats 16000000 in
theorem rMinus_any (vc vO : Value) (C : List Ct) (O : List Ob) (k : ByteArray) (w : World) (h : IsObs w vO O) (hr : RiseO O) (hz : ∀ y ∈ O, y.r.size ≤ 1000000) (hc : IsCts w vc C) (hC : FitC C) (hn : ∀ x ∈ C, x.n ≤ 1000000000000000) (hCl : C.length ≤ 400) :
  Calls Tryz.prog 20 #[vc, vO, .string k] w fun e w' => ∃ v' C' ev, e = .returned (.tuple #[v', .int .i64 ev]) ∧ IsCts w' v' C' ∧ MinusRes O C k.data.toList C' ev ∧ Below w.heap.size w w' := by
 have C0 := Lib.hid (rN_any vc C k w hc)
 have HI := Lib.hid h; have HR := Lib.hid hr; have HZ := Lib.hid hz; have HCI := Lib.hid hc; have HC := Lib.hid hC; have HN := Lib.hid hn; have HCL := Lib.hid hCl
 obtain ⟨_, ao, co, hvo, _, _⟩ := h
 obtain ⟨_, ac, cc, hvc, _, _⟩ := hc
 obtain ⟨zo, hzo⟩ : ∃ z, z = O.length := ⟨_, rfl⟩
 obtain ⟨zc, hzc⟩ : ∃ z, z = C.length := ⟨_, rfl⟩
 rw [← hzo] at hvo; rw [← hzc] at hvc
 subst hvo hvc
 obtain ⟨r, hrk⟩ : ∃ r, r = k.data.toList := ⟨_, rfl⟩
 have HRK := Lib.hid hrk
 rw [← hrk] at C0 ⊢
 clear hr hz hC hn hCl hzo hzc hrk
 by_cases hn0 : nC C r = 0
 ·have HN0 := Lib.hid hn0
  rw [hn0] at C0
  clear hn0
  go_enter Tryz.func20, Tryz.ntmps20
  go_wp2_with fail
  refine C0.out.mono ?_
  rintro e w1 ⟨rfl, hb1⟩
  have HB1 := Lib.hid hb1
  clear hb1
  go_wp2
  go_ret2
  exact ⟨_, C, 5, rfl, HCI.out.stays HB1.out, .inl ⟨rfl, rfl, HN0.out⟩, HB1.out⟩
 ·have HN0 := Lib.hid hn0
  have q0 : (nC C r == 0) = false := beq_eq_false_iff_ne.2 hn0
  have HP0 := Lib.hid (minus_zero (O := O) (r := r) HC.out)
  obtain ⟨n0, hn0e⟩ : ∃ n, n = nC C r := ⟨_, rfl⟩
  rw [← hn0e] at q0 C0
  clear hn0 hn0e
  go_enter Tryz.func20, Tryz.ntmps20
  go_wp2_with fail
  refine C0.out.mono ?_
  rintro e w1 ⟨rfl, hb1⟩
  have HMV : Hid (MvI w (.slice ac zc cc) C C [r] (.slice ac zc cc) (.slice (some ⟨w1.heap.size, 0, none⟩) 1 1) (w1.alloc (.cells #[.string k] 9))) := Lib.hid ⟨(AnyC.of HCI.out).stays (hb1.alloc hb1.size _), by
   rw [HRK.out]; exact (own_one w1 k).low_Ned hb1.size⟩
  clear hb1
  go_wp2_with fail
  go_loopw [0, 8, 9] (fun c q i wr => ∃ (j : Nat) (C' : List Ct) (Q : List Txt) (u v : Value), i = .int .i64 j ∧ u = c ∧ v = q ∧ MinusI O C r j C' Q ∧ MvI w (.slice ac zc cc) C C' Q u v wr) (fun _ _ i _ => 800002 - (intOf i).toNat)
  case atStart => exact ⟨0, C, [r], _, _, rfl, rfl, rfl, HP0.out, HMV.out⟩
  case round =>
   clear q0
   obtain ⟨j, C', Q, u, v, rfl, rfl, rfl, hP, hM⟩ := hrel
   have HP := Lib.hid hP; have HM := Lib.hid hM
   have hql := minusI_len HC.out hP HCL.out
   have hcl := minusI_clen HC.out hP
   have HMX := Lib.hid (minusI_max HC.out HN.out hP)
   have hle := hP.le
   have hcc : C'.length ≤ 900000 := by have := HCL.out; omega
   have HCC := Lib.hid hcc
   obtain ⟨_, qa, qc, hvq, _, hc⟩ := hM.que.strs
   rw [strsOf_len] at hvq
   obtain ⟨_, xa, xc, hvu, _, _⟩ := hM.cts.is
   obtain ⟨zq, hzq⟩ : ∃ z, z = Q.length := ⟨_, rfl⟩
   obtain ⟨zu, hzu⟩ : ∃ z, z = C'.length := ⟨_, rfl⟩
   rw [← hzq] at hvq hle hql; rw [← hzu] at hvu
   subst hvq hvu
   have HZQ := Lib.hid hzq
   clear hP hcl hcc hzu
   by_cases hlt : j < zq
   ·have hjl : j < Q.length := by omega
    obtain ⟨b, off, rfl, hbl, g⟩ := hc (by rw [strsOf_len]; omega)
    have c0 := g j (by rw [strsOf_len]; exact hjl)
    rw [strsOf_get hjl] at c0
    obtain ⟨t, ht⟩ : ∃ t, t = Q[j] := ⟨_, rfl⟩
    rw [← ht] at c0
    obtain ⟨x, hx⟩ : ∃ x : ByteArray, x = ⟨t.toArray⟩ := ⟨_, rfl⟩
    rw [← hx] at c0
    have hxt : x.data.toList = t := by rw [hx]
    have HPS := Lib.hid (fun hz => minus_pass HP.out hjl hz)
    have HST := Lib.hid (fun hz => minus_step HP.out hjl (key := x) (by rw [hxt, ht]) hz)
    rw [hxt] at HST
    rw [← ht] at HST HPS
    have CN := Lib.hid (fun W hW => rN_any (.slice xa zu xc) C' x W hW)
    rw [hxt] at CN
    have CN2 := Lib.hid (fun v W hW => rN_any v (changeC C' x (-1)) x W hW)
    rw [hxt] at CN2
    have CC := Lib.hid (fun W hW => rchange_any (.slice xa zu xc) C' x (-1) W hW HP.out.fit HCC.out HMX.out (by decide) (by decide))
    have CK := Lib.hid (fun W hW => rkids_any (.slice ao zo co) O x W hW HR.out HZ.out)
    rw [hxt] at CK
    have hbk : decide ((j : Int) < (zq : Int)) = true := by simpa using (show (j : Int) < zq by omega)
    have CN1 := Lib.hid (CN.out wr hM.cts.is)
    have HWB := Lib.hid hM.cts.1
    have HQK := Lib.hid (kidsL_len O t)
    clear hc g hx ht hM hzq hjl
    by_cases h0 : nC C' t = 0
    ·rw [h0] at CN1
     have HS := Lib.hid (HPS.out h0)
     clear h0
     go_wp2_with fail
     refine CN1.out.mono ?_
     rintro e w2 ⟨rfl, hb2⟩
     have HM2 := Lib.hid (HM.out.stays hb2)
     clear hb2 c0 hbl
     go_wp2
     go_roundw
     case rel => exact ⟨j + 1, _, _, _, _, by go_num, rfl, rfl, HS.out, HM2.out⟩
     case measure => simp [intOf]; omega
    ·have q0 : (nC C' t == 0) = false := beq_eq_false_iff_ne.2 h0
     have HS0 := HST.out h0
     obtain ⟨nn, hnn⟩ : ∃ nn, nn = nC C' t := ⟨_, rfl⟩
     rw [← hnn] at q0 CN1
     clear h0 hnn
     have HS1 := Lib.hid HS0
     clear HS0
     go_wp2_with fail
     refine CN1.out.mono ?_
     rintro e w2 ⟨rfl, hb2⟩
     have HM2 := Lib.hid (HM.out.stays hb2)
     have c2 := (hb2.cell (p := ⟨b, off + j, none⟩) hbl).trans c0
     have hbl2 := Nat.lt_of_lt_of_le hbl hb2.size
     have CC1 := Lib.hid (CC.out w2 HM2.out.cts.is)
     have HWB2 := Lib.hid (below_step HWB.out hb2)
     clear hb2 c0 hbl
     go_wp2_with fail
     refine CC1.out.mono ?_
     rintro e w3 ⟨u3, rfl, ho3, hb3⟩
     have HM3 := Lib.hid (HM2.out.change hb3 ho3)
     have c3 := (hb3.cell (p := ⟨b, off + j, none⟩) hbl2).trans c2
     have hbl3 := Nat.lt_of_lt_of_le hbl2 hb3.size
     have HWB3 := Lib.hid (below_step HWB2.out hb3)
     have CN3 := Lib.hid (CN2.out u3 w3 ho3.is)
     obtain ⟨_, ua, uc, hvu, _, _⟩ := ho3.is
     obtain ⟨z3, hz3⟩ : ∃ z, z = (changeC C' x (-1)).length := ⟨_, rfl⟩
     rw [← hz3] at hvu
     subst hvu
     clear hb3 c2 hbl2 ho3 hz3
     by_cases h1 : nC (changeC C' x (-1)) t = 0
     ·rw [h1] at CN3
      have HS : Hid (MinusI O C r (j + 1) (changeC C' x (-1)) (Q ++ kidsL O t)) := Lib.hid (by have := HS1.out; rwa [if_pos h1] at this)
      clear h1
      go_wp2_with fail
      refine CN3.out.mono ?_
      rintro e w6 ⟨rfl, hb6⟩
      have HM6 := Lib.hid (HM3.out.stays hb6)
      have c6 := (hb6.cell (p := ⟨b, off + j, none⟩) hbl3).trans c3
      have hbl6 := Nat.lt_of_lt_of_le hbl3 hb6.size
      have HWB6 := Lib.hid (below_step HWB3.out hb6)
      have CK1 := Lib.hid (CK.out w6 (HI.out.stays HWB6.out))
      clear hb6 c3 hbl3
      go_wp2_with fail
      refine CK1.out.mono ?_
      rintro e w4 ⟨v4, rfl, ho4, hb4⟩
      have HM4 := Lib.hid (HM6.out.stays hb4)
      have HS4 := Lib.hid ho4.strs
      obtain ⟨_, ka, kc, hvk, _, _⟩ := ho4.strs
      rw [strsOf_len] at hvk
      obtain ⟨zk, hzk⟩ : ∃ z, z = (kidsL O t).length := ⟨_, rfl⟩
      rw [← hzk] at hvk
      have HWB4 := Lib.hid (below_step HWB6.out hb4)
      subst hvk
      have HLL : Hid (Q.length + (strsOf (kidsL O t)).length ≤ 1000000) := Lib.hid (by rw [strsOf_len, ← HZQ.out]; have := HQK.out; omega)
      clear ho4 hb4 c6 hbl6 hzk
      go_wp2_with (at_builtin; refine wpList_append_all_at (by kernel_rfl) _ _ rfl HM4.out.que HWB4.out.size HS4.out rfl rfl HLL.out ?_)
      intro v5 w5 ho5 hg5
      rw [txts_strsOf] at ho5
      have HM5 := Lib.hid (HM4.out.more hg5 ho5)
      clear ho5 hg5
      go_wp2
      go_roundw
      case rel => exact ⟨j + 1, _, _, _, v5, by go_num, rfl, rfl, HS.out, HM5.out⟩
      case measure => simp [intOf]; omega
     ·have q1 : (nC (changeC C' x (-1)) t == 0) = false := beq_eq_false_iff_ne.2 h1
      have HS : Hid (MinusI O C r (j + 1) (changeC C' x (-1)) Q) := Lib.hid (by have := HS1.out; rwa [if_neg h1] at this)
      obtain ⟨n1, hn1⟩ : ∃ n, n = nC (changeC C' x (-1)) t := ⟨_, rfl⟩
      rw [← hn1] at q1 CN3
      clear h1 hn1
      go_wp2_with fail
      refine CN3.out.mono ?_
      rintro e w6 ⟨rfl, hb6⟩
      have HM6 := Lib.hid (HM3.out.stays hb6)
      clear hb6 c3 hbl3
      go_wp2
      go_roundw
      case rel => exact ⟨j + 1, _, _, _, _, by go_num, rfl, rfl, HS.out, HM6.out⟩
      case measure => simp [intOf]; omega
   ·have hj : j = Q.length := by have := HZQ.out; omega
    have hD := HP.out
    rw [hj] at hD
    have HD := Lib.hid (minus_done hD)
    have hbk : decide ((j : Int) < (zq : Int)) = false := by simp; omega
    have HIS := Lib.hid hM.cts.is; have HBE := Lib.hid hM.cts.1
    clear hj hD hc hzq hM
    go_wp2
    go_ret2
    exact ⟨_, C', 0, rfl, HIS.out, .inr ⟨rfl, HN0.out, HD.out⟩, HBE.out⟩
end Go.Proofs.YtokknppjeckppaaGreatDoor
set_option linter.unusedVariables false
namespace Go.Proofs.YtokknppjeckppaaGreatDoor
def keysR (R : List Txt) : List Txt := R.filter fun r => decide (r.length = 32)
theorem keysR_mem {R : List Txt} {t : Txt} : t ∈ keysR R ↔ t ∈ R ∧ t.length = 32 := by unfold keysR; rw [List.mem_filter]; simp
theorem keysR_count (R : List Txt) (t : Txt) : (keysR R).count t = if t.length = 32 then R.count t else 0 := by
 unfold keysR
 by_cases h : t.length = 32
 ·rw [if_pos h, List.count_filter (by simpa using h)]
 ·rw [if_neg h]
  exact List.count_eq_zero.2 fun hm => h (by have := (List.mem_filter.1 hm).2; simpa using this)
theorem reach_keys {O : List Ob} {R : List Txt} {t : Txt} : ReachO O (keysR R) t ↔ ReachO O R t :=
 ⟨reach_mono fun u hu h => .start (keysR_mem.1 hu).1 h, reach_mono fun u hu h => .start (keysR_mem.2 ⟨hu, h⟩) h⟩
theorem allR_keys {O : List Ob} {R A : List Txt} : AllR O (keysR R) A ↔ AllR O R A := by unfold AllR; simp only [reach_keys]
def CountsOf (O : List Ob) (R : List Txt) (C : List Ct) : Prop := FitC C ∧ ∃ A, AllR O R A ∧ ∀ t, nC C t = (ofF O (keysR R) A t : Nat)
theorem countsOf_one {O : List Ob} {R : List Txt} {C D : List Ct} (h : CountsOf O R C) (k : CountsOf O R D) : C = D := by
 obtain ⟨h1, A, h2, h3⟩ := h
 obtain ⟨k1, B, k2, k3⟩ := k
 refine fitC_ext h1 k1 fun t => ?_
 rw [h3, k3]
 unfold ofF nmO
 rw [count_same _ h2.1 k2.1 fun t => by rw [h2.2, k2.2]]
theorem countsOf_nil (O : List Ob) : CountsOf O [] [] := by
 have hno : ∀ t, ¬ ReachO O [] t := fun t h => by
  induction h with
  | start h1 _ => cases h1
  | kid _ _ ih => exact ih
 exact ⟨⟨List.Pairwise.nil, fun x h => (by cases h)⟩, [], ⟨List.nodup_nil, fun t => ⟨fun h => (by cases h), fun h => absurd h (hno t)⟩⟩, fun t => by simp [nC, ofF, keysR, nmO]⟩
theorem countsOf_pos {O : List Ob} {R : List Txt} {C : List Ct} (h : CountsOf O R C) (t : Txt) : nC C t ≠ 0 ↔ ReachO O R t := by
 obtain ⟨h1, A, h2, h3⟩ := h
 rw [h3]
 have hA := allR_keys.2 h2
 by_cases h32 : t.length = 32
 ·have := of_pos hA h32
  rw [reach_keys] at this
  rw [← this]
  omega
 ·constructor
  ·intro hn
   exfalso
   have h0 : (keysR R).count t = 0 := by rw [keysR_count, if_neg h32]
   have h4 : 0 < nmO O A t := by unfold ofF at hn; omega
   obtain ⟨j, _, hj⟩ := nm_pos.1 h4
   exact h32 (kidsO_len hj)
  ·intro hr; exact absurd (reach_len hr) h32
theorem countsOf_mem {O : List Ob} {R : List Txt} {C : List Ct} (h : CountsOf O R C) {t : Txt} : t ∈ C.map Ct.t ↔ ReachO O R t := by
 rw [← countsOf_pos h, ← nF_mem h.1]
 unfold nF
 have := (nC_pos h.1 (t := t)).1
 omega
theorem countsOf_32 {O : List Ob} {R : List Txt} {C : List Ct} (h : CountsOf O R C) : ∀ x ∈ C, x.t.length = 32 := fun x hx => reach_len ((countsOf_mem h).1 (List.mem_map.2 ⟨x, hx, rfl⟩))
theorem countsOf_len {O : List Ob} {R U : List Txt} {C : List Ct} (h : CountsOf O R C) (hU : ∀ t, ReachO O R t → t ∈ U) : C.length ≤ U.length := by
 have := nodup_len (rises_nodup (fitC_rises h.1)) fun t ht => hU t ((countsOf_mem h).1 ht)
 rwa [List.length_map] at this
theorem countsOf_max {O : List Ob} {R U : List Txt} {C : List Ct} (h : CountsOf O R C) (hU : ∀ t, ReachO O R t → t ∈ U) : ∀ x ∈ C, x.n ≤ (R.length + U.length : Nat) := fun x hx => by
 obtain ⟨h1, A, h2, h3⟩ := h
 rw [← nC_mem h1 hx, h3]
 have e1 : (keysR R).count x.t ≤ R.length := Nat.le_trans List.count_le_length (by unfold keysR; exact List.length_filter_le _ _)
 have e2 : nmO O A x.t ≤ U.length := by
  unfold nmO
  exact Nat.le_trans List.countP_le_length (nodup_len h2.1 fun t ht => hU t ((h2.2 t).1 ht))
 unfold ofF
 omega
theorem countsOf_nF {O : List Ob} {R : List Txt} {C : List Ct} (h : CountsOf O R C) : ∃ A, AllR O (keysR R) A ∧ nF C = ofF O (keysR R) A := by
 obtain ⟨h1, A, h2, h3⟩ := h
 exact ⟨A, allR_keys.2 h2, funext fun t => by unfold nF; rw [h3]; rfl⟩
theorem oneMore_keys {R R' : List Txt} {r : Txt} (h : OneMore R R' r) (hr : r.length = 32) : OneMore (keysR R) (keysR R') r := fun k => by
 rw [keysR_count, keysR_count, h k]
 unfold oneK
 by_cases e : k = r
 ·subst e; rw [if_pos hr, if_pos hr]
 ·rw [if_neg e]; split <;> rfl
theorem allR_more {O : List Ob} {R R' A F : List Txt} {r : Txt} (hA : AllR O R A) (hr : r.length = 32) (hR : OneMore R R' r) (hF : F.Nodup) (hf : ∀ t, t ∈ F ↔ FreshO O (ofF O R A) r t) : AllR O R' (A ++ F) := by
 refine ⟨?_, fun t => ?_⟩
 ·rw [List.nodup_append]
  refine ⟨hA.1, hF, fun a ha b hb e => ?_⟩
  subst e
  exact ((fresh_iff hA hr).1 ((hf a).1 hb)).2 ((hA.2 a).1 ha)
 ·rw [List.mem_append, hA.2, hf, fresh_iff hA hr, hR.reach]
  by_cases e : ReachO O R t <;> simp [e]
open Classical in
theorem allR_less {O : List Ob} {R R' B : List Txt} {r : Txt} (hB : AllR O R' B) (hR : OneMore R R' r) : ∃ A, AllR O R A := by
 refine ⟨B.filter fun t => decide (ReachO O R t), hB.1.sublist List.filter_sublist, fun t => ?_⟩
 rw [List.mem_filter, hB.2, hR.reach]
 constructor
 ·intro h; exact of_decide_eq_true h.2
 ·intro h; exact ⟨.inl h, decide_eq_true h⟩
theorem countsOf_plus {O : List Ob} {R R' F : List Txt} {C C' : List Ct} {r : Txt} (h : CountsOf O R C) (hr : r.length = 32) (hR : OneMore R R' r) (hC : FitC C') (hF : F.Nodup) (hf : ∀ t, t ∈ F ↔ FreshO O (nF C) r t) (hn : ∀ t, nC C' t = (plusF O (nF C) r F t : Nat)) : CountsOf O R' C' := by
 obtain ⟨A, hA, e⟩ := countsOf_nF h
 rw [e] at hf hn
 have hk := oneMore_keys hR hr
 have hB := allR_more hA hr hk hF hf
 refine ⟨hC, A ++ F, allR_keys.1 hB, fun t => ?_⟩
 rw [hn, plus_of hr hA hB hk hF hf]
theorem countsOf_minus {O : List Ob} {R R' D : List Txt} {C C' : List Ct} {r : Txt} (h : CountsOf O R' C) (hr : r.length = 32) (hR : OneMore R R' r) (hno : NoRing O) (hC : FitC C') (hD : DropsO O (nF C) r D) (hn : ∀ t, nC C' t = (minusF O (nF C) r D t : Nat)) : CountsOf O R C' := by
 obtain ⟨B, hB, e⟩ := countsOf_nF h
 rw [e] at hD hn
 have hk := oneMore_keys hR hr
 obtain ⟨A, hA⟩ := allR_less hB hk
 refine ⟨hC, A, allR_keys.1 hA, fun t => ?_⟩
 rw [hn, minus_of hr hA hB hk hD hno]
theorem plusRes_counts {O : List Ob} {R R' : List Txt} {C C' : List Ct} {r : Txt} {ev : Int} (h : CountsOf O R C) (hR : OneMore R R' r) (hr : r.length = 32) (hw : WholeO O [r]) (hp : PlusRes O C r C' ev) : ev = 0 ∧ CountsOf O R' C' := by
 rcases hp with ⟨_, _, h1⟩ | ⟨rfl, _, h2, F, h3, h4, h5⟩
 ·exact absurd ⟨hr, hw⟩ h1
 ·exact ⟨rfl, countsOf_plus h hr hR h2 h3 h4 h5⟩
theorem minusRes_counts {O : List Ob} {R R' : List Txt} {C C' : List Ct} {r : Txt} {ev : Int} (h : CountsOf O R' C) (hR : OneMore R R' r) (hr : r.length = 32) (hno : NoRing O) (hp : MinusRes O C r C' ev) : ev = 0 ∧ CountsOf O R C' := by
 have h0 : nC C r ≠ 0 := (countsOf_pos h r).2 (.start ((hR.mem r).2 (.inr rfl)) hr)
 rcases hp with ⟨_, _, h1⟩ | ⟨rfl, _, h2, D, h3, h4⟩
 ·exact absurd h1 h0
 ·exact ⟨rfl, countsOf_minus h hr hR hno h2 h3 h4⟩
theorem reach_incl {O : List Ob} {R R' : List Txt} (h : ∀ t ∈ R, t ∈ R') {t : Txt} (ht : ReachO O R t) : ReachO O R' t := reach_mono (fun u hu h2 => .start (h u hu) h2) ht
end Go.Proofs.YtokknppjeckppaaGreatDoor
set_option linter.unusedVariables false
namespace Go.Proofs.YtokknppjeckppaaGreatDoor
open Go Go.RowKit Go.Maps
attribute [local go_sem] Oper.semAt_some
theorem zeroInt_run (w : World) : (zeroValue 3).run Tryz.prog w = .ok (.int .i64 0) w := by kernel_rfl
theorem strK_Ctg : Keyed Tryz.prog 9 := string_keyed Tryz.underlying9
abbrev numD (n : Nat) : DataW Unit := .lit (.int .i64 n)
def Tal (w : World) (Bm : Nat) (U : List Txt) (f : Txt → Nat) : Prop :=
 ∃ D : DataW Unit, w.ownsMap Tryz.prog 9 (plainElem Tryz.prog 3) Bm 900000 D ∧ (∀ x : Txt, Maps.has D (.string x) = true → x ∈ U) ∧ ∀ x : Txt, D.atKey (.string x) (numD 0) = numD (f x)
theorem ownsMap_tight {H : Type} {P : Program} {k : TypeId} {R : Value → Option (DataW H × List MemPlace)} {w : World} {b n m : Nat} {D : DataW H} (h : w.ownsMap P k R b n D) (hm : Maps.size D ≤ m) : w.ownsMap P k R b m D := by
 obtain ⟨es, clock, hb, F, hs, rfl⟩ := h
 exact ⟨es, clock, hb, F, by simpa [Maps.size, length_sorted] using hm, rfl⟩
theorem strKeys_spec {H : Type} {R : Value → Option (DataW H × List MemPlace)} {w : World} {b n : Nat} {D : DataW H} (h : w.ownsMap Tryz.prog 9 R b n D) :
  (strKeys D).Nodup ∧ (∀ x, x ∈ strKeys D ↔ Maps.has D (.string x) = true) ∧ (strKeys D).length = Maps.size D := by
 obtain ⟨es, rfl, hk⟩ := h.keysOf
 obtain ⟨es', e, hp⟩ := h.tidy strK_Ctg
 cases e
 have hs : ∀ p ∈ es, ∃ x, p.1 = .string x := fun p hp => by
  obtain ⟨key, hkey⟩ := hk p hp
  obtain ⟨x, _, hx, _⟩ := Maps.keyOf_str Tryz.underlying9 hkey
  exact ⟨x, hx⟩
 refine ⟨?_, fun x => ?_, List.length_map ..⟩
 ·show (es.map fun p => strOf p.1).Nodup
  refine List.pairwise_map.2 (hp.imp_of_mem fun {p q} hp' hq' hne e => hne ?_)
  obtain ⟨a, ha⟩ := hs p hp'
  obtain ⟨b, hb⟩ := hs q hq'
  rw [ha, hb] at e ⊢
  exact congrArg _ e
 ·show x ∈ es.map (fun p => strOf p.1) ↔ _
  rw [has_eq, List.any_eq_true, List.mem_map]
  constructor
  ·rintro ⟨p, hp', rfl⟩
   obtain ⟨a, ha⟩ := hs p hp'
   exact ⟨p, hp', by rw [ha]; simp [strOf, Lit.sameKey]⟩
  ·rintro ⟨p, hp', h2⟩
   obtain ⟨a, ha⟩ := hs p hp'
   refine ⟨p, hp', ?_⟩
   rw [ha] at h2 ⊢
   by_cases e : a = x
   ·exact e
   ·rw [sameKey_ne (fun h => e (by cases h; rfl))] at h2; cases h2
theorem Tal.made (w : World) (U : List Txt) : Tal (w.alloc (.map #[] 0)) w.heap.size U (fun _ => 0) :=
 ⟨.map [], (World.ownsMap_made w _ _ _).mono (Nat.zero_le _), fun x h => by simp [has_eq] at h, fun x => by simp [DataW.atKey]⟩
theorem Tal.block {w : World} {Bm : Nat} {U : List Txt} {f : Txt → Nat} (h : Tal w Bm U f) : ∃ es cl, w.heap[Bm]? = some (.map es cl) := by
 obtain ⟨D, ⟨es, cl, hb, _⟩, _⟩ := h
 exact ⟨es, cl, hb⟩
theorem Tal.lt {w : World} {Bm : Nat} {U : List Txt} {f : Txt → Nat} (h : Tal w Bm U f) : Bm < w.heap.size := by
 obtain ⟨D, h, _⟩ := h
 exact h.lt
theorem Tal.kept {w w' : World} {Bm : Nat} {U : List Txt} {f : Txt → Nat} {r : Option Nat} (h : Tal w Bm U f) (hg : w.grownBy w' r) (hne : some Bm ≠ r) : Tal w' Bm U f := by
 obtain ⟨D, h1, h2⟩ := h
 exact ⟨D, h1.kept hg hne, h2⟩
theorem Tal.stays {w w' : World} {Bm : Nat} {U : List Txt} {f : Txt → Nat} (h : Tal w Bm U f) (hb : Below w.heap.size w w') : Tal w' Bm U f := h.kept (grownBy_of_below hb) (by simp)
theorem Tal.row_ne {w : World} {Bm b : Nat} {U : List Txt} {f : Txt → Nat} {xs : Array Value} {T : TypeId} (h : Tal w Bm U f) (hr : Row w b xs T) : b ≠ Bm := fun e => by
 obtain ⟨es, cl, hb⟩ := h.block
 subst e
 rw [show w.heap[b]? = _ from hr] at hb
 cases hb
theorem Tal.own_ne {w : World} {Bm : Nat} {U : List Txt} {f : Txt → Nat} (h : Tal w Bm U f) {C : Nat} {T : TypeId} {k n : Nat} {v : Value} {xs : List Value} (ho : w.ownsRow C T k v n xs) : v.ownBlock ≠ some Bm := fun e => by
 obtain ⟨es, cl, hb⟩ := h.block
 rcases ho.2 with ⟨rfl, _⟩ | ⟨g, cap, cur, rfl, _, hg, _⟩
 ·cases e
 ·cases e
  rw [hg] at hb
  cases hb
theorem numD_inj {c : Int} {n : Nat} (h : numD n = (.lit (.int .i64 c) : DataW Unit)) : c = n := by cases h; rfl
theorem Tal.none {w : World} {Bm : Nat} {U : List Txt} {f : Txt → Nat} (h : Tal w Bm U f) {t : Txt} (ht : f t ≠ 0) : t ∈ U := by
 obtain ⟨D, h1, h2, h3⟩ := h
 refine h2 t ?_
 cases hh : Maps.has D (.string t) with
 | true => rfl
 | false =>
  have := h3 t
  rw [Maps.atKey_of_not_has hh] at this
  cases hf : f t with
  | zero => exact absurd hf ht
  | succ k =>
   rw [hf] at this
   have := congrArg (fun d : DataW Unit => match d with | .lit (.int _ c) => c | _ => 0) this
   simp at this
   omega
theorem put_atKey {D : DataW Unit} {f : Txt → Nat} {t : Txt} {n : Nat} (hm : IsMap D) (h : ∀ x : Txt, D.atKey (.string x) (numD 0) = numD (f x)) (x : Txt) : (D.put (.string t) (numD n)).atKey (.string x) (numD 0) = numD (putF f t n x) := by
 by_cases e : x = t
 ·subst e
  rw [Maps.atKey_put_same hm (show WideAt.IsKeyLit (.string x) from trivial), putF_same]
 ·rw [Maps.atKey_put_other (fun e2 => e (by cases e2; rfl)), putF_other _ e, h]
theorem tal_put {w w2 : World} {Bm : Nat} {U : List Txt} {f : Txt → Nat} {D : DataW Unit} {t : Txt} {n : Nat} (hU : U.length ≤ 800000) (ht : t ∈ U)
  (h0 : w.ownsMap Tryz.prog 9 (plainElem Tryz.prog 3) Bm 900000 D) (h1 : ∀ x : Txt, Maps.has D (.string x) = true → x ∈ U) (h2 : ∀ x : Txt, D.atKey (.string x) (numD 0) = numD (f x))
  (h3 : w2.ownsMap Tryz.prog 9 (plainElem Tryz.prog 3) Bm 900001 (D.put (.string t) (numD n))) : Tal w2 Bm U (putF f t n) := by
 have hm := h0.isMap
 have hh : ∀ x : Txt, Maps.has (D.put (.string t) (numD n)) (.string x) = true → x ∈ U := fun x hx => by
  by_cases e : x = t
  ·rw [e]; exact ht
  ·rw [Maps.has_put_other (fun e2 => e (by cases e2; rfl))] at hx; exact h1 x hx
 obtain ⟨k1, k2, k3⟩ := strKeys_spec h3
 refine ⟨_, ownsMap_tight h3 ?_, hh, put_atKey hm h2⟩
 rw [← k3]
 exact Nat.le_trans (nodup_len k1 fun x hx => hh x ((k2 x).1 hx)) (by omega)
set_option maxRecDepth 100000 in
set_option maxHeartbeats 8000000 in
theorem turnMore_any (bt Bm : Nat) (v0 : Value) (U : List Txt) (f : Txt → Nat) (k : ByteArray) (w : World) (hr : Row w bt #[v0, .map (some Bm)] 69) (ht : Tal w Bm U f) (hU : U.length ≤ 800000) (hk : k.data.toList ∈ U) (h32 : k.data.toList.length = 32) (hf : f k.data.toList ≤ 1000000000000000) :
  Calls Tryz.prog 53 #[.string k, .pointer (some ⟨bt, 0, none⟩)] w fun e w' => e = .returned (.bool (decide (f k.data.toList = 0))) ∧ Tal w' Bm U (putF f k.data.toList (f k.data.toList + 1)) ∧ w.grownBy w' (some Bm) := by
 have hne := ht.row_ne hr
 obtain ⟨D, ho, hh, ha⟩ := ht
 obtain ⟨t, hkt⟩ : ∃ t, t = k.data.toList := ⟨_, rfl⟩
 have hkey : keyOf Tryz.prog 9 (.string k) = some (.string t) := by
  rw [hkt]
  exact Go.WideMaps.keyOf_string_mk Tryz.underlying9 (by rw [Lib.size_eq, h32]; decide)
 rw [← hkt] at hk hf ⊢
 obtain ⟨n, hn⟩ : ∃ n, n = f t := ⟨_, rfl⟩
 rw [← hn] at hf ⊢
 have HO := Lib.hid ho; have HH := Lib.hid hh; have HA := Lib.hid ha; have HR := Lib.hid hr; have HK := Lib.hid hk; have HN := Lib.hid hn; have HU := Lib.hid hU
 have c1 : w.cell? ⟨bt, 1, none⟩ = some (.map (some Bm)) := hr.cell 1
 have hbl := hr.lt
 have hwf : (Lit.int .i64 ((n : Int) + 1)).wf = true := WalkArith.wf_i64 ⟨by omega, by omega⟩
 have HWF := Lib.hid hwf
 clear hh ha hr hk hn hkt hU hwf h32
 go_enter Tryz.func53, Tryz.ntmps53
 go_wp2_with (at_lookup; refine wpList_lookup_own_int _ rfl _ _ 67 rfl 9 3 .i64 strK_Ctg Tryz.underlying67 Tryz.underlying3 (zeroInt_run _) Bm 900000 D rfl HO.out _ _ rfl hkey ?_)
 intro c hat hwc
 obtain rfl : c = n := numD_inj (n := n) (by rw [← hat, HN.out]; exact (HA.out t).symm)
 clear hat hwc
 have hsum : IntKind.i64.wrap ((n : Int) + 1) = (n : Int) + 1 := IntWalk.i64_in _ (by omega)
 go_wp2_with (at_mapUpdate; refine wpList_mapUpdate_own _ rfl _ _ _ 67 rfl 9 3 strK_Ctg Tryz.underlying67 (plainElem Tryz.prog 3) Bm 900000 D rfl HO.out (by unfold maxLen; omega) _ _ _ rfl rfl hkey (numD (n + 1)) [] (plainElem_int Tryz.underlying3 HWF.out) ?_)
 intro w2 ho2 hg2
 have HT2 := Lib.hid (tal_put HU.out HK.out HO.out HH.out HA.out ho2)
 have HO2 := Lib.hid ho2; have HG2 := Lib.hid hg2
 have hr2 : Row w2 bt #[v0, .map (some Bm)] 69 := (hg2.block bt hbl (fun e => hne (by cases e; rfl))).trans HR.out
 have d1 : w2.cell? ⟨bt, 1, none⟩ = some (.map (some Bm)) := hr2.cell 1
 have hbl2 := hr2.lt
 have HAT : Hid ((D.put (.string t) (numD (n + 1))).atKey (.string t) (numD 0) = numD (n + 1)) := Lib.hid (by
  rw [put_atKey HO.out.isMap HA.out t, putF_same])
 clear ho2 hg2 hr2 c1 hsum
 go_wp2_with (at_lookup; refine wpList_lookup_own_int _ rfl _ _ 67 rfl 9 3 .i64 strK_Ctg Tryz.underlying67 Tryz.underlying3 (zeroInt_run _) Bm 900001 _ rfl HO2.out _ _ rfl hkey ?_)
 intro c hat hwc
 obtain rfl : c = ((n + 1 : Nat) : Int) := numD_inj (n := n + 1) (by rw [← hat]; exact HAT.out.symm)
 clear hat hwc
 go_wp2
 go_ret
 refine ⟨ret_val (congrArg Value.bool (?_ : (((n + 1 : Nat) : Int) == 1) = decide (n = 0))), HT2.out, HG2.out⟩
 by_cases e : n = 0
 ·subst e; rfl
 ·rw [decide_eq_false e]
  exact beq_eq_false_iff_ne.2 (by omega)
structure TurnOk (O : List Ob) (r : Txt) (S : List Txt → List Txt → World → Prop) (Bm : Nat) (fk : FuncId) (bt : Nat) : Prop where
 ent : Enters Tryz.prog fk
 call : ∀ F H (k : ByteArray) w, S F H w → H ++ [k.data.toList] <+: queC O r F → Calls Tryz.prog fk #[.string k, .pointer (some ⟨bt, 0, none⟩)] w fun e w' => ∃ b : Bool, e = .returned (.bool b) ∧ S (if b = true then F ++ [k.data.toList] else F) (H ++ [k.data.toList]) w' ∧ w.grownBy w' (some Bm)
 kept : ∀ F H w w', S F H w → w'.heap[bt]? = w.heap[bt]? → w'.heap[Bm]? = w.heap[Bm]? → S F H w'
 map : ∀ F H w, S F H w → (∃ es cl, w.heap[Bm]? = some (.map es cl)) ∧ ∃ xs, Row w bt xs 69
 few : ∀ F H w, S F H w → F.length ≤ 800000
theorem TurnOk.row_ne {O : List Ob} {r : Txt} {S : List Txt → List Txt → World → Prop} {Bm bt b : Nat} {fk : FuncId} (h : TurnOk O r S Bm fk bt) {F H : List Txt} {w : World} (hs : S F H w) {xs : Array Value} {T : TypeId} (hr : Row w b xs T) : b ≠ Bm := fun e => by
 obtain ⟨es, cl, hb⟩ := (h.map F H w hs).1
 subst e
 rw [show w.heap[b]? = _ from hr] at hb
 cases hb
theorem TurnOk.own_ne {O : List Ob} {r : Txt} {S : List Txt → List Txt → World → Prop} {Bm bt : Nat} {fk : FuncId} (h : TurnOk O r S Bm fk bt) {F H : List Txt} {w : World} (hs : S F H w) {C : Nat} {T : TypeId} {k n : Nat} {v : Value} {xs : List Value} (ho : w.ownsRow C T k v n xs) : v.ownBlock ≠ some Bm := fun e => by
 obtain ⟨es, cl, hb⟩ := (h.map F H w hs).1
 rcases ho.2 with ⟨rfl, _⟩ | ⟨g, cap, cur, rfl, _, hg, _⟩
 ·cases e
 ·cases e
  rw [hg] at hb
  cases hb
theorem TurnOk.stays {O : List Ob} {r : Txt} {S : List Txt → List Txt → World → Prop} {Bm bt : Nat} {fk : FuncId} (h : TurnOk O r S Bm fk bt) {F H : List Txt} {w w' : World} (hs : S F H w) (hb : Below w.heap.size w w') : S F H w' := by
 obtain ⟨⟨es, cl, h1⟩, xs, h2⟩ := h.map F H w hs
 exact h.kept F H w w' hs (hb.block bt h2.lt) (hb.block Bm (Array.getElem?_eq_some_iff.1 h1).1)
structure Spr (Ws : World) (S : List Txt → List Txt → World → Prop) (bf bw bt : Nat) (fk : FuncId) (F H : List Txt) (vQ : Value) (w : World) : Prop where
 st : S F H w
 fn : Row w bf #[.func (.func fk) #[] #[.pointer (some ⟨bt, 0, none⟩)]] 71
 wq : Row w bw #[vQ] 23
 own : OwnTxt Ws w vQ F
 size : Ws.heap.size ≤ w.heap.size
structure Hk (bw Bm : Nat) (v : Value) (w w' : World) : Prop where
 os : w'.os = w.os
 tape : w'.tape = w.tape
 output : w'.output = w.output
 size : w.heap.size ≤ w'.heap.size
 block : ∀ b, b < w.heap.size → b ≠ bw → b ≠ Bm → v.ownBlock ≠ some b → w'.heap[b]? = w.heap[b]?
theorem Hk.of_grown {bw Bm : Nat} {v : Value} {w w' : World} (h : w.grownBy w' (some Bm)) : Hk bw Bm v w w' := ⟨h.os, h.tape, h.output, h.size, fun b hb _ hm _ => h.block b hb (fun e => hm (by cases e; rfl))⟩
theorem Hk.append {bw Bm : Nat} {v : Value} {w w' w2 : World} (h : Hk bw Bm v w w') (hg : w'.grownBy w2 v.ownBlock) : Hk bw Bm v w w2 :=
 ⟨hg.os.trans h.os, hg.tape.trans h.tape, hg.output.trans h.output, Nat.le_trans h.size hg.size, fun b hb h1 h2 h3 => (hg.block b (Nat.lt_of_lt_of_le hb h.size) (fun e => h3 e.symm)).trans (h.block b hb h1 h2 h3)⟩
theorem Hk.set {bw Bm : Nat} {v : Value} {w w' : World} (h : Hk bw Bm v w w') (u : Value) : Hk bw Bm v w (w'.setCell ⟨bw, 0, none⟩ u) :=
 ⟨h.os, h.tape, h.output, Nat.le_trans h.size (by simp [World.setCell]), fun b hb h1 h2 h3 => (Below.heap_setCell _ _ _ _ h1).trans (h.block b hb h1 h2 h3)⟩
theorem Hk.row {bw Bm b : Nat} {v : Value} {w w' : World} (h : Hk bw Bm v w w') {xs : Array Value} {T : TypeId} (hr : Row w b xs T) (h1 : b ≠ bw) (h2 : b ≠ Bm) (h3 : v.ownBlock ≠ some b) : Row w' b xs T := (h.block b hr.lt h1 h2 h3).trans hr
theorem Hk.owns {bw Bm : Nat} {v u : Value} {w w' : World} (h : Hk bw Bm v w w') {M : List Txt} {W : World} (ho : OwnTxt W w u M) (h1 : u.ownBlock ≠ some bw) (h2 : u.ownBlock ≠ some Bm) (h3 : ∀ g, u.ownBlock = some g → v.ownBlock ≠ some g) : OwnTxt W w' u M :=
 owns_block ho fun g hg => h.block g (World.ownsRow.lt ho g hg).2 (fun e => h1 (by rw [hg, e])) (fun e => h2 (by rw [hg, e])) (h3 g hg)
theorem Hk.grown {bw Bm : Nat} {v : Value} {w0 w w' : World} (h : Hk bw Bm v w w') (hg : w0.grownBy w (some Bm)) (h1 : w0.heap.size ≤ bw) (h2 : ∀ g, v.ownBlock = some g → w0.heap.size ≤ g) : w0.grownBy w' (some Bm) :=
 ⟨h.os.trans hg.os, h.tape.trans hg.tape, h.output.trans hg.output, Nat.le_trans hg.size h.size, fun b hb hn => (h.block b (Nat.lt_of_lt_of_le hb hg.size) (by omega) (fun e => hn (by rw [e])) (fun e => by have := h2 b e; omega)).trans (hg.block b hb hn)⟩
theorem Spr.stays {O : List Ob} {r : Txt} {S : List Txt → List Txt → World → Prop} {Ws : World} {Bm bt bf bw : Nat} {fk : FuncId} {F H : List Txt} {vQ : Value} {w w' : World} (hT : TurnOk O r S Bm fk bt) (h : Spr Ws S bf bw bt fk F H vQ w) (hb : Below w.heap.size w w') : Spr Ws S bf bw bt fk F H vQ w' :=
 ⟨hT.stays h.st hb, h.fn.step hb, h.wq.step hb, h.own.stays hb, Nat.le_trans h.size hb.size⟩
theorem spr_more {O : List Ob} {r : Txt} {S : List Txt → List Txt → World → Prop} {Ws : World} {Bm bt bf bw : Nat} {fk : FuncId} {F F' H' : List Txt} {vQ v' : Value} {w1 w3 : World} (hT : TurnOk O r S Bm fk bt) (hs : S F' H' w1)
  (hfn : Row w1 bf #[.func (.func fk) #[] #[.pointer (some ⟨bt, 0, none⟩)]] 71) (hwq : Row w1 bw #[vQ] 23) (ho : OwnTxt Ws w1 vQ F) (hsz : Ws.heap.size ≤ w1.heap.size)
  (ho3 : OwnTxt Ws w3 v' F') (hg3 : w1.grownBy w3 vQ.ownBlock) : Spr Ws S bf bw bt fk F' H' v' (w3.setCell ⟨bw, 0, none⟩ v') := by
 obtain ⟨⟨es, cl, hm⟩, xs, hbt⟩ := hT.map _ _ _ hs
 have hwm := hT.row_ne hs hwq
 have hqm := hT.own_ne hs ho
 have hwt : bw ≠ bt := fun e => by
  subst e
  have h := (show w1.heap[bw]? = _ from hwq).symm.trans (show w1.heap[bw]? = _ from hbt)
  cases h
 have hwf : bw ≠ bf := fun e => by
  subst e
  have h := (show w1.heap[bw]? = _ from hwq).symm.trans (show w1.heap[bw]? = _ from hfn)
  cases h
 have hbt3 : w3.heap[bt]? = w1.heap[bt]? := hg3.block bt hbt.lt (fun e => owns_apart ho hbt (by decide) e.symm)
 have hm3 : w3.heap[Bm]? = w1.heap[Bm]? := hg3.block Bm (Array.getElem?_eq_some_iff.1 hm).1 (fun e => hqm e.symm)
 have hfn3 : Row w3 bf #[.func (.func fk) #[] #[.pointer (some ⟨bt, 0, none⟩)]] 71 := (hg3.block bf hfn.lt (fun e => owns_apart ho hfn (by decide) e.symm)).trans hfn
 have hwq3 : Row w3 bw #[vQ] 23 := (hg3.block bw hwq.lt (fun e => owns_apart ho hwq (by decide) e.symm)).trans hwq
 refine ⟨hT.kept _ _ w1 _ hs ((Below.heap_setCell _ _ _ _ (fun e => hwt e.symm)).trans hbt3) ((Below.heap_setCell _ _ _ _ (fun e => hwm e.symm)).trans hm3), ?_, hwq3.set 0 v', ?_, ?_⟩
 ·exact (Below.heap_setCell _ _ _ _ (fun e => hwf e.symm)).trans hfn3
 ·exact (Wf.set (N := w3.heap.size) (Bw := bw) v').owns ho3 (fun g hg => (World.ownsRow.lt ho3 g hg).2) (owns_apart ho3 hwq3 (by decide))
 ·exact Nat.le_trans (Nat.le_trans hsz hg3.size) (by simp [World.setCell])
def RetHand (O : List Ob) (r : Txt) (Ws : World) (S : List Txt → List Txt → World → Prop) (bf bw bt Bm : Nat) (fk : FuncId) (F H : List Txt) (vQ : Value) (t : Txt) (w : World) (e : Ending) (w' : World) : Prop :=
 e = .returned (.tuple #[]) ∧ ∃ (R : List Txt) (vQ' : Value), Spr Ws S bf bw bt fk (F ++ R) (H ++ [t]) vQ' w' ∧ Hk bw Bm vQ w w' ∧ (vQ'.ownBlock = vQ.ownBlock ∨ ∃ g, vQ'.ownBlock = some g ∧ w.heap.size ≤ g)
set_option maxRecDepth 100000 in
set_option maxHeartbeats 8000000 in
theorem hand_any (O : List Ob) (r : Txt) (Ws : World) (S : List Txt → List Txt → World → Prop) (bf bw bt Bm : Nat) (fk : FuncId) (hT : TurnOk O r S Bm fk bt) (F H : List Txt) (vQ : Value) (k : ByteArray) (w : World) (h : Spr Ws S bf bw bt fk F H vQ w) (hk : H ++ [k.data.toList] <+: queC O r F) :
  Calls Tryz.prog 78 #[.string k, .pointer (some ⟨bf, 0, none⟩), .pointer (some ⟨bw, 0, none⟩)] w (RetHand O r Ws S bf bw bt Bm fk F H vQ k.data.toList w) := by
 have hE := hT.ent
 unfold Enters at hE
 have C := Lib.hid (hT.call F H k w h.st hk)
 have HT := Lib.hid hT; have HS := Lib.hid h
 have c0 : w.cell? ⟨bf, 0, none⟩ = some (.func (.func fk) #[] #[.pointer (some ⟨bt, 0, none⟩)]) := h.fn.cell 0
 have hbl := h.fn.lt
 clear h hk hT
 go_enter Tryz.func78, Tryz.ntmps78
 go_wp2_with fail
 refine C.out.mono ?_
 rintro e w1 ⟨b, rfl, hs1, hg1⟩
 have hfm := HT.out.row_ne HS.out.st HS.out.fn
 have hwm := HT.out.row_ne HS.out.st HS.out.wq
 have hqm := HT.out.own_ne HS.out.st HS.out.own
 have hfn1 : Row w1 bf _ _ := (hg1.block bf HS.out.fn.lt (fun e => hfm (by cases e; rfl))).trans HS.out.fn
 have hwq1 : Row w1 bw _ _ := (hg1.block bw HS.out.wq.lt (fun e => hwm (by cases e; rfl))).trans HS.out.wq
 have hown1 : OwnTxt Ws w1 vQ F := World.ownsRow.kept HS.out.own hg1 (.inr hqm)
 have HG1 := Lib.hid hg1; have HS1 := Lib.hid hs1; have HFN1 := Lib.hid hfn1; have HWQ1 := Lib.hid hwq1; have HO1 := Lib.hid hown1
 have HSZ1 : Hid (Ws.heap.size ≤ w1.heap.size) := Lib.hid (Nat.le_trans HS.out.size hg1.size)
 cases b with
 | false =>
  clear hs1 hg1 hfm hwm hqm hfn1 hwq1 hown1 c0
  go_wp2
  go_end0
  exact ⟨rfl, [], vQ, ⟨by rw [List.append_nil]; exact HS1.out, HFN1.out, HWQ1.out, by rw [List.append_nil]; exact HO1.out, HSZ1.out⟩, Hk.of_grown HG1.out, .inl rfl⟩
 | true =>
  have d0 : w1.cell? ⟨bw, 0, none⟩ = some vQ := hwq1.cell 0
  have hbl1 := hwq1.lt
  have hfew := HT.out.few _ _ _ HS.out.st
  have HFEW : Hid (F.length ≤ 1000000) := Lib.hid (by omega)
  obtain ⟨_, qa, qc, hvq, _, _⟩ := hown1.strs
  obtain ⟨m, hm⟩ : ∃ m, m = (strsOf F).length := ⟨_, rfl⟩
  rw [← hm] at hvq
  clear hs1 hg1 hfm hwm hqm hfn1 hwq1 hown1 c0 hfew hm
  subst hvq
  go_wp2_with (at_builtin; refine wpList_append_txt_at rfl _ _ rfl HO1.out HSZ1.out rfl rfl rfl HFEW.out ?_)
  intro v' w3 ho3 hg3 hat
  have hwq3 : Row w3 bw _ _ := (hg3.block bw HWQ1.out.lt (fun e => owns_apart HO1.out HWQ1.out (by decide) e.symm)).trans HWQ1.out
  have e0 : w3.cell? ⟨bw, 0, none⟩ = some _ := hwq3.cell 0
  have f0 := hwq3.free 0
  have HSP := Lib.hid (spr_more HT.out HS1.out HFN1.out HWQ1.out HO1.out HSZ1.out ho3 hg3)
  have HK := Lib.hid (((Hk.of_grown (bw := bw) (v := Value.slice qa m qc) HG1.out).append hg3).set v')
  have HAT : Hid (v'.ownBlock = (Value.slice qa m qc).ownBlock ∨ ∃ g, v'.ownBlock = some g ∧ w.heap.size ≤ g) := Lib.hid (hat.imp id fun ⟨g, h1, h2⟩ => ⟨g, h1, Nat.le_trans HG1.out.size h2⟩)
  obtain ⟨_, ua, uc, hue, _, _⟩ := ho3.strs
  obtain ⟨m2, hm2⟩ : ∃ m2, m2 = (strsOf (F ++ [k.data.toList])).length := ⟨_, rfl⟩
  rw [← hm2] at hue
  clear ho3 hg3 hat hwq3 d0 hm2
  subst hue
  go_wp2
  go_end0
  exact ⟨rfl, [k.data.toList], _, HSP.out, HK.out, HAT.out⟩
structure Out (w : World) (S : List Txt → List Txt → World → Prop) (b3 : Nat) (xs3 : Array Value) (bf bw bt Bm : Nat) (fk : FuncId) (O : List Ob) (r : Txt) (F : List Txt) (i : Nat) (vQ : Value) (wr : World) : Prop where
 spr : Spr w S bf bw bt fk F (queC O r (F.take i)) vQ wr
 le : i ≤ F.length
 gr : w.grownBy wr (some Bm)
 fr : w.heap.size ≤ bw
 box : Row wr b3 xs3 69
structure Inn (w : World) (S : List Txt → List Txt → World → Prop) (b3 : Nat) (xs3 : Array Value) (bf bw bt Bm : Nat) (fk : FuncId) (O : List Ob) (r : Txt) (F : List Txt) (i : Nat) (L : List Txt) (vk : Value) (m : Nat) (R : List Txt) (vQ : Value) (wk wr : World) : Prop where
 spr : Spr w S bf bw bt fk (F ++ R) (queC O r (F.take i) ++ L.take m) vQ wr
 lst : OwnTxt wk wr vk L
 ap : ∀ g, vk.ownBlock = some g → vQ.ownBlock ≠ some g
 gr : w.grownBy wr (some Bm)
 fr : w.heap.size ≤ bw
 box : Row wr b3 xs3 69
theorem cell_turnM {w w' : World} {Bm : Nat} (hg : w.grownBy w' (some Bm)) (hm : ∃ es cl, w.heap[Bm]? = some (.map es cl)) {p : Addr} {u : Value} (h : w.cell? p = some u) : w'.cell? p = some u := by
 have hl := block_lt_of_cell h
 have hne : p.block ≠ Bm := fun e => by
  obtain ⟨es, cl, hb⟩ := hm
  unfold World.cell? at h
  rw [e, hb] at h
  cases h
 unfold World.cell? at h ⊢
 rw [hg.block p.block hl (fun e => hne (by cases e; rfl))]
 exact h
theorem IsObs.turnM {w w' : World} {Bm : Nat} (hg : w.grownBy w' (some Bm)) (hm : ∃ es cl, w.heap[Bm]? = some (.map es cl)) {v : Value} {L : List Ob} (h : IsObs w v L) : IsObs w' v L := by
 obtain ⟨h0, a, cap, h1, h2, h3⟩ := h
 refine ⟨h0, a, cap, h1, h2, fun hL => ?_⟩
 obtain ⟨b, off, e, hlt, hc⟩ := h3 hL
 exact ⟨b, off, e, Nat.lt_of_lt_of_le hlt hg.size, fun i hi => ⟨cell_turnM hg hm (hc i hi).1, cell_turnM hg hm (hc i hi).2⟩⟩
theorem ErrT.turnM {w w' : World} {Bm : Nat} (hg : w.grownBy w' (some Bm)) (hm : ∃ es cl, w.heap[Bm]? = some (.map es cl)) (h : ErrT w) : ErrT w' := cell_turnM hg hm h
section
variable {w : World} {S : List Txt → List Txt → World → Prop} {b3 : Nat} {xs3 : Array Value} {bf bw bt Bm : Nat} {fk : FuncId} {O : List Ob} {r : Txt} {F : List Txt} {i : Nat} {L : List Txt} {vk : Value} {m : Nat} {R : List Txt} {vQ : Value} {wk wr : World}
theorem Inn.zero {w5 : World} (hT : TurnOk O r S Bm fk bt) (h : Spr w S bf bw bt fk F (queC O r (F.take i)) vQ wk) (hb : Below wk.heap.size wk w5) (hg : w.grownBy wk (some Bm) ∧ w.heap.size ≤ bw) (hbx : Row wk b3 xs3 69) (hl : OwnTxt wk w5 vk L) :
  Inn w S b3 xs3 bf bw bt Bm fk O r F i L vk 0 [] vQ wk w5 := by
 refine ⟨by simpa using h.stays hT hb, hl, fun g hvg e => ?_, ?_, hg.2, hbx.step hb⟩
 ·have h1 := (World.ownsRow.lt h.own g e).2
  have h2 := (World.ownsRow.lt hl g hvg).1
  omega
 ·exact ⟨hb.os.trans hg.1.os, hb.tape.trans hg.1.tape, hb.output.trans hg.1.output, Nat.le_trans hg.1.size hb.size, fun b h1 h2 => (hb.block b (Nat.lt_of_lt_of_le h1 hg.1.size)).trans (hg.1.block b h1 h2)⟩
theorem Inn.pre (h : Inn w S b3 xs3 bf bw bt Bm fk O r F i L vk m R vQ wk wr) (hF : ∃ hi : i < F.length, L = kidsL O F[i]) (hm : m < L.length) : queC O r (F.take i) ++ L.take m ++ [L[m]] <+: queC O r (F ++ R) := by
 obtain ⟨hi, hL⟩ := hF
 have h1 : queC O r (F.take i) ++ L.take m ++ [L[m]] = queC O r (F.take i) ++ L.take (m + 1) := by rw [List.append_assoc, ← List.take_succ_eq_append_getElem hm]
 have h2 : queC O r (F.take i) ++ L.take (m + 1) <+: queC O r (F.take i) ++ L := (List.prefix_append_right_inj _).2 (List.take_prefix _ _)
 have h3 : queC O r (F.take i) ++ L = queC O r (F.take (i + 1)) := by rw [queC_take hi, hL]
 rw [h1]
 refine h2.trans ?_
 rw [h3]
 exact queC_pre ((List.take_prefix _ _).trans (List.prefix_append _ _))
theorem Inn.step (hT : TurnOk O r S Bm fk bt) (h : Inn w S b3 xs3 bf bw bt Bm fk O r F i L vk m R vQ wk wr) (hF : ∃ hi : i < F.length, L = kidsL O F[i]) (hm : m < L.length) {y : ByteArray} (hy : y.data.toList = L[m]) (e : Ending) (w8 : World)
  (hr : RetHand O r w S bf bw bt Bm fk (F ++ R) (queC O r (F.take i) ++ L.take m) vQ y.data.toList wr e w8) : e = .returned (.tuple #[]) ∧ ∃ R2 vQ3, Inn w S b3 xs3 bf bw bt Bm fk O r F i L vk (m + 1) R2 vQ3 wk w8 := by
 obtain ⟨h1, R', v', h2, h3, h4⟩ := hr
 refine ⟨h1, R ++ R', v', ⟨?_, ?_, fun g hvg => ?_, h3.grown h.gr h.fr (fun g hg => (World.ownsRow.lt h.spr.own g hg).1), h.fr, h3.row h.box (fun e => by
  subst e
  have h9 := (show wr.heap[b3]? = _ from h.box).symm.trans (show wr.heap[b3]? = _ from h.spr.wq)
  cases h9) (hT.row_ne h.spr.st h.box) (owns_apart h.spr.own h.box (by decide))⟩⟩
 ·rw [hy, List.append_assoc F R R', List.append_assoc (queC O r (F.take i)), ← List.take_succ_eq_append_getElem hm] at h2
  exact h2
 ·exact h3.owns h.lst (owns_apart h.lst h.spr.wq (by decide)) (hT.own_ne h.spr.st h.lst) (fun g hg => h.ap g hg)
 ·rcases h4 with e4 | ⟨g', e4, hlt⟩
  ·rw [e4]; exact h.ap g hvg
  ·rw [e4]
   intro e5
   cases e5
   have := (World.ownsRow.lt h.lst g hvg).2
   omega
theorem Inn.done (h : Inn w S b3 xs3 bf bw bt Bm fk O r F i L vk m R vQ wk wr) (hF : ∃ hi : i < F.length, L = kidsL O F[i]) (hm : m = L.length) :
  Out w S b3 xs3 bf bw bt Bm fk O r (F ++ R) (i + 1) vQ wr ∧ True ∧ True := by
 obtain ⟨hi, hL⟩ := hF
 refine ⟨⟨?_, by rw [List.length_append]; omega, h.gr, h.fr, h.box⟩, trivial, trivial⟩
 have := h.spr
 rw [hm, List.take_length, hL, ← queC_take hi] at this
 rw [List.take_append_of_le_length hi]
 exact this
end
def spgU (wz : World) (b3 bw Bm zo co zq qc i b off zk : Nat) (ao qa : Option Addr) (O : List Ob) (x : ByteArray) (L : List Txt) : Nat → Value → Value → World → Prop
 | 0 => fun v _ _ => v = .agg #[.slice ao zo co, .map (some Bm)]
 | 1 => fun v _ _ => v = .slice qa zq qc
 | 2 => fun v _ _ => v = .int .i64 (i : Nat)
 | 3 => fun v _ _ => v = .pointer (some ⟨b, off + i, none⟩)
 | 4 => fun v _ _ => v = .string x
 | 5 => fun v _ w => OwnTxt wz w v L
 | 6 => fun v _ _ => v = .int .i64 (zk : Nat)
 | 7 => fun v _ _ => v = .int .i64 0
 | 8 => fun _ _ w => Row w b3 #[.slice ao zo co, .map (some Bm)] 69
 | 9 => fun _ _ w => Row w bw #[.slice qa zq qc] 23
 | 10 => fun _ _ w => b < w.heap.size ∧ w.cell? ⟨b, off + i, none⟩ = some (.string x)
 | 11 => fun _ _ w => IsObs w (.slice ao zo co) O ∧ ErrT w
 | _ => fun _ _ _ => True
def spgN : List (List Nat) := [[8], [9], [], [1, 2], [3, 10], [0, 4, 11], [5], []]
def spgE : Nat → Option Tmp
 | _ => none
def spgB : List (Nat × Nat) := []
theorem spg_T (wz : World) (b3 bw Bm zo co zq qc i b off zk : Nat) (ao qa : Option Addr) (O : List Ob) (x : ByteArray) (L : List Txt) (ix kx : Nat) (v e : Value) (w w' : World) (hk : kx < 12) (hne : kx ≠ ix) (hbd : (ix, kx) ∉ spgB) (hU : (spgU wz b3 bw Bm zo co zq qc i b off zk ao qa O x L) kx v e w) (hT : allT ix w w') : (spgU wz b3 bw Bm zo co zq qc i b off zk ao qa O x L) kx v e w' := by
 have hb : Below w.heap.size w w' := hT
 rcases (show kx = 0 ∨ kx = 1 ∨ kx = 2 ∨ kx = 3 ∨ kx = 4 ∨ kx = 5 ∨ kx = 6 ∨ kx = 7 ∨ kx = 8 ∨ kx = 9 ∨ kx = 10 ∨ kx = 11 by omega) with rfl | rfl | rfl | rfl | rfl | rfl | rfl | rfl | rfl | rfl | rfl | rfl
 iterate 5 exact hU
 ·exact OwnTxt.stays hU hb
 ·exact hU
 ·exact hU
 ·exact Row.step hU hb
 ·exact Row.step hU hb
 ·exact ⟨Nat.lt_of_lt_of_le hU.1 hb.size, (hb.cell (p := ⟨b, off + i, none⟩) hU.1).trans hU.2⟩
 ·exact ⟨IsObs.stays hU.1 hb, ErrT.stays hU.2 hb⟩
set_option maxRecDepth 100000 in
set_option maxHeartbeats 16000000 in
theorem cspread_any (ao : Option Addr) (zo co Bm : Nat) (O : List Ob) (k : ByteArray) (S : List Txt → List Txt → World → Prop) (bt : Nat) (fk : FuncId) (w : World) (hT : TurnOk O k.data.toList S Bm fk bt)
  (hob : IsObs w (.slice ao zo co) O) (hr : RiseO O) (hl : O.length ≤ 1000000) (hz : ∀ y ∈ O, y.r.size ≤ 1000000) (hE : ErrT w) (hs : S [] [] w) :
  Calls Tryz.prog 52 #[.agg #[.slice ao zo co, .map (some Bm)], .string k, .func (.func fk) #[] #[.pointer (some ⟨bt, 0, none⟩)]] w fun e w' => e = .returned (.tuple #[]) ∧ ∃ F, S F (queC O k.data.toList F) w' ∧ w.grownBy w' (some Bm) := by
 obtain ⟨V, hV⟩ : ∃ V, V = ((w.alloc (.cells #[.slice ao zo co, .map (some Bm)] 69)).alloc (.cells #[.func (.func fk) #[] #[.pointer (some ⟨bt, 0, none⟩)]] 71)).alloc (.cells #[.slice none 0 0] 23) := ⟨_, rfl⟩
 have hb1 : Below w.heap.size w (w.alloc (.cells #[.slice ao zo co, .map (some Bm)] 69)) := (Below.refl _ _).alloc (Nat.le_refl _) _
 have hb2 : Below w.heap.size w ((w.alloc (.cells #[.slice ao zo co, .map (some Bm)] 69)).alloc (.cells #[.func (.func fk) #[] #[.pointer (some ⟨bt, 0, none⟩)]] 71)) := hb1.alloc hb1.size _
 have hbV : Below w.heap.size w V := by rw [hV]; exact hb2.alloc hb2.size _
 have hr3 : Row V w.heap.size #[.slice ao zo co, .map (some Bm)] 69 := by
  rw [hV]; exact ((Row.made w #[.slice ao zo co, .map (some Bm)] 69).alloc _).alloc _
 have hrf : Row V (w.heap.size + 1) #[.func (.func fk) #[] #[.pointer (some ⟨bt, 0, none⟩)]] 71 := by
  rw [hV]
  have := (Row.made (w.alloc (.cells #[.slice ao zo co, .map (some Bm)] 69)) #[.func (.func fk) #[] #[.pointer (some ⟨bt, 0, none⟩)]] 71).alloc (.cells #[.slice none 0 0] 23)
  simpa using this
 have hrw : Row V (w.heap.size + 2) #[.slice none 0 0] 23 := by
  rw [hV]
  have := Row.made ((w.alloc (.cells #[.slice ao zo co, .map (some Bm)] 69)).alloc (.cells #[.func (.func fk) #[] #[.pointer (some ⟨bt, 0, none⟩)]] 71)) #[.slice none 0 0] 23
  simpa using this
 have hsp : Spr w S (w.heap.size + 1) (w.heap.size + 2) bt fk [] [] (.slice none 0 0) V := ⟨hT.stays hs hbV, hrf, hrw, World.ownsRow_nil _ _ _ _, hbV.size⟩
 have HMP := Lib.hid (hT.map _ _ _ hs).1
 have hm0 : Bm < w.heap.size := by obtain ⟨es, cl, h⟩ := HMP.out; exact (Array.getElem?_eq_some_iff.1 h).1
 have C0 := Lib.hid (hand_any O k.data.toList w S (w.heap.size + 1) (w.heap.size + 2) bt Bm fk hT [] [] (.slice none 0 0) k V hsp (List.prefix_refl _))
 have H0 : Hid (∀ e w1, RetHand O k.data.toList w S (w.heap.size + 1) (w.heap.size + 2) bt Bm fk [] [] (.slice none 0 0) k.data.toList V e w1 → e = .returned (.tuple #[]) ∧ ∃ F vQ, Out w S w.heap.size #[.slice ao zo co, .map (some Bm)] (w.heap.size + 1) (w.heap.size + 2) bt Bm fk O k.data.toList F 0 vQ w1) := Lib.hid (fun e w1 h => by
  obtain ⟨h1, R, v', h2, h3, _⟩ := h
  refine ⟨h1, R, v', ⟨by simpa [queC] using h2, Nat.zero_le _, h3.grown (show w.grownBy V (some Bm) from ⟨hbV.os, hbV.tape, hbV.output, hbV.size, fun b hb _ => hbV.block b hb⟩) (by omega) (fun g e => by cases e), by omega, h3.row hr3 (by omega) (by omega) (fun e => by cases e)⟩⟩)
 have HV := Lib.hid hV; have HT := Lib.hid hT; have HOB := Lib.hid hob; have HRO := Lib.hid hr; have HLO := Lib.hid hl; have HZO := Lib.hid hz; have HE := Lib.hid hE
 clear hV hb1 hb2 hbV hr3 hrf hrw hsp hob hr hl hz hE hs hT
 go_enter Tryz.func52, Tryz.ntmps52
 go_wp2_with fail
 rw [← HV.out]
 refine C0.out.mono ?_
 rintro e w1 hret
 obtain ⟨rfl, F0, vQ0, hO0⟩ := H0.out e w1 hret
 have HO0 := Lib.hid hO0
 obtain ⟨b3, hb3⟩ : ∃ b, b = w.heap.size := ⟨_, rfl⟩
 obtain ⟨bf, hbf⟩ : ∃ b, b = w.heap.size + 1 := ⟨_, rfl⟩
 obtain ⟨bw, hbw⟩ : ∃ b, b = w.heap.size + 2 := ⟨_, rfl⟩
 rw [← hbw, ← hbf] at HO0 ⊢
 have HO1 : Hid (Out w S b3 #[.slice ao zo co, .map (some Bm)] bf bw bt Bm fk O k.data.toList F0 0 vQ0 w1) := Lib.hid (by rw [hb3]; exact HO0.out)
 rw [show (Value.pointer (some ⟨w.heap.size, 0, none⟩)) = .pointer (some ⟨b3, 0, none⟩) by rw [hb3]]
 obtain ⟨r, hr⟩ : ∃ r, r = k.data.toList := ⟨_, rfl⟩
 rw [← hr] at HO1 HT
 have HRK := Lib.hid hr
 clear hret hO0 HO0 H0 C0 hb3 hbf hbw hr hm0 HV
 go_wp2_with fail
 go_loopw [8] (fun i wr => ∃ (j : Nat) (F : List Txt) (vQ : Value), i = .int .i64 j ∧ Out w S b3 #[.slice ao zo co, .map (some Bm)] bf bw bt Bm fk O r F j vQ wr ∧ True ∧ True) (fun i _ => 800001 - (intOf i).toNat)
 case atStart => exact ⟨0, F0, vQ0, rfl, HO1.out, trivial, trivial⟩
 case round =>
  obtain ⟨i, F, vQ, rfl, hO, _, _⟩ := hrel
  have HO := Lib.hid hO
  have HSP := Lib.hid hO.spr; have HGR := Lib.hid (show w.grownBy wr (some Bm) ∧ w.heap.size ≤ bw from ⟨hO.gr, hO.fr⟩); have HR3 := Lib.hid hO.box
  have hfew := HT.out.few _ _ _ hO.spr.st
  have hle := hO.le
  obtain ⟨_, qa, qc, hvq, _, hc⟩ := hO.spr.own.strs
  rw [strsOf_len] at hvq
  obtain ⟨zq, hzq⟩ : ∃ z, z = F.length := ⟨_, rfl⟩
  rw [← hzq] at hvq hle hfew
  subst hvq
  have HRW := Lib.hid hO.spr.wq
  have c0 : wr.cell? ⟨bw, 0, none⟩ = some (.slice qa zq qc) := HRW.out.cell 0
  have hbl0 := HRW.out.lt
  have HZQ := Lib.hid hzq
  clear hO
  by_cases hlt : i < zq
  ·have hil : i < F.length := by omega
   obtain ⟨b, off, rfl, hbl, g⟩ := hc (by rw [strsOf_len]; omega)
   have q0 := g i (by rw [strsOf_len]; exact hil)
   rw [strsOf_get hil] at q0
   obtain ⟨x, hx⟩ : ∃ x : ByteArray, x = ⟨F[i].toArray⟩ := ⟨_, rfl⟩
   rw [← hx] at q0
   have hxt : x.data.toList = F[i] := by rw [hx]
   obtain ⟨L, hL⟩ : ∃ L, L = kidsL O F[i] := ⟨_, rfl⟩
   have HKX : Hid (kidsL O x.data.toList = L) := Lib.hid (by rw [hxt, hL])
   have HKF : Hid (∃ hi : i < F.length, L = kidsL O F[i]) := Lib.hid ⟨hil, hL⟩
   obtain ⟨zk, hzk⟩ : ∃ z, z = L.length := ⟨_, rfl⟩
   have HZK := Lib.hid hzk
   have hzk2 : zk ≤ 2000 := by rw [hzk, hL]; exact kidsL_len _ _
   have HOB := Lib.hid (show IsObs wr (.slice ao zo co) O ∧ ErrT wr from ⟨HOB.out.turnM HGR.out.1 HMP.out, HE.out.turnM HGR.out.1 HMP.out⟩)
   have HCX : Hid (b < wr.heap.size ∧ wr.cell? ⟨b, off + i, none⟩ = some (.string x)) := Lib.hid ⟨hbl, q0⟩
   have hbk : decide ((i : Int) < (zq : Int)) = true := by simpa using (show (i : Int) < zq by omega)
   clear hc g hx hxt hL hil hzq hzk q0
   go_wp2_with fail
   refine wp_region_wordsG (by kernel_rfl) (by kernel_rfl) allT (HeldN wr) spgE (spgU wr b3 bw Bm zo co zq qc i b off zk ao (some ⟨b, off, none⟩) O x L) 12 spgN [5, 6, 7] (by kernel_rfl) (by kernel_rfl) (by kernel_rfl)
    spgB (by kernel_rfl) (fun ix kx v e w w' hi hk hne hb hU hT => spg_T _ _ _ _ _ _ _ _ _ _ _ _ _ _ _ _ _  ix kx v e w w' hk hne hb hU hT) (by decide) (HeldN.drew _) (fun kx hk hge => ?hv0)
    [21, 22, 23, 24, 25, 26, 27, 28] (by kernel_rfl) (forall_ops ?steps) ?behind
   case hv0 =>
    have hge' : 8 ≤ kx := hge
    rcases (show kx = 8 ∨ kx = 9 ∨ kx = 10 ∨ kx = 11 by omega) with rfl | rfl | rfl | rfl
    ·exact HR3.out.drew
    ·exact HRW.out.drew
    ·exact HCX.out
    ·exact ⟨HOB.out.1.stays ((Below.refl _ _).drew), HOB.out.2.stays ((Below.refl _ _).drew)⟩
   case steps =>
    refine ⟨?_, ?_, ?_, ?_, ?_, ?_, ?_, ?_, trivial⟩
    ·refine stepG_of rfl ?_
     exact stepR_value (t := 21) (.agg #[.slice ao zo co, .map (some Bm)]) rfl (fun _ => Below.refl _ _) (fun ac w9 hG hN hO => by
      have e3 : slot ac 3 = .pointer (some ⟨b3, 0, none⟩) := hO 3 (by kernel_rfl)
      have hx : Row w9 b3 #[.slice ao zo co, .map (some Bm)] 69 := hN 8 (by decide)
      have c0 : w9.cell? ⟨b3, 0, none⟩ = some (.slice ao zo co) := hx.cell 0
      have c1 : w9.cell? ⟨b3, 1, none⟩ = some (.map (some Bm)) := hx.cell 1
      have f := slot_at e3
      unfold execOp; go_simp) (fun ac w9 hG hN => rfl)
    ·refine stepG_of rfl ?_
     exact stepR_value (t := 22) (.slice (some ⟨b, off, none⟩) zq qc) rfl (fun _ => Below.refl _ _) (fun ac w9 hG hN hO => by
      have e6 : slot ac 6 = .pointer (some ⟨bw, 0, none⟩) := hO 6 (by kernel_rfl)
      have hx : Row w9 bw #[.slice (some ⟨b, off, none⟩) zq qc] 23 := hN 9 (by decide)
      have c0 : w9.cell? ⟨bw, 0, none⟩ = some (.slice (some ⟨b, off, none⟩) zq qc) := hx.cell 0
      have f := slot_at e6
      unfold execOp; go_simp) (fun ac w9 hG hN => rfl)
    ·refine stepG_of rfl ?_
     exact stepR_value (t := 23) (.int .i64 (i : Nat)) rfl (fun _ => Below.refl _ _) (fun ac w hG hN hO => by
      have e8 : slot ac 8 = .int .i64 (i : Nat) := hO 8 (by kernel_rfl)
      exact run_move_slot (.inl rfl) e8) (fun ac w hG hN => rfl)
    ·refine stepG_of rfl ?_
     exact stepR_value (t := 24) (.pointer (some ⟨b, off + i, none⟩)) rfl (fun _ => Below.refl _ _) (fun ac w9 hG hN hO => by
      have e22 : slot ac 22 = .slice (some ⟨b, off, none⟩) zq qc := hN 1 (by decide)
      have e23 : slot ac 23 = .int .i64 (i : Nat) := hN 2 (by decide)
      have f := slot_at e22
      have f2 := slot_at e23
      unfold execOp; go_simp) (fun ac w9 hG hN => rfl)
    ·refine stepG_of rfl ?_
     exact stepR_value (t := 25) (.string x) rfl (fun _ => Below.refl _ _) (fun ac w9 hG hN hO => by
      have e24 : slot ac 24 = .pointer (some ⟨b, off + i, none⟩) := hN 3 (by decide)
      have hx : b < w9.heap.size ∧ w9.cell? ⟨b, off + i, none⟩ = some (.string x) := hN 10 (by decide)
      have c0 := hx.2
      have f := slot_at e24
      unfold execOp; go_simp) (fun ac w9 hG hN => rfl)
    ·refine stepG_of rfl ?_
     intro ac w9 hG hN hO
     have e21 : slot ac 21 = .agg #[.slice ao zo co, .map (some Bm)] := hN 0 (by decide)
     have e25 : slot ac 25 = .string x := hN 4 (by decide)
     have hx : IsObs w9 (.slice ao zo co) O ∧ ErrT w9 := hN 11 (by decide)
     refine wp_callx 79 _ _ rfl (enters_of Tryz.func79 (by kernel_rfl) rfl) #[.agg #[.slice ao zo co, .map (some Bm)], .string x] (by simp [eval_slot, e21, e25]) (calls_own hG.below.size (by have := tnames_any (.slice ao zo co) (some Bm) O x w9 hx.1 HRO.out HLO.out HZO.out hx.2; rw [HKX.out] at this; exact this)) ?_
     rintro v w'' ⟨hv, hb⟩
     exact ⟨v, rfl, hb, hG.on hb, hv⟩
    ·refine stepG_of rfl ?_
     exact stepR_value (t := 27) (.int .i64 (zk : Nat)) rfl (fun _ => Below.refl _ _) (fun ac w9 hG hN hO => by
      have e26 : OwnTxt wr w9 (slot ac 26) L := hN 5 (by decide)
      obtain ⟨_, ka, kc, hv, _, _⟩ := e26.strs
      rw [strsOf_len, ← HZK.out] at hv
      have f := slot_at hv
      unfold execOp; go_simp) (fun ac w9 hG hN => rfl)
    ·refine stepG_of rfl ?_
     exact stepR_value (t := 28) (.int .i64 0) rfl (fun _ => Below.refl _ _) (fun ac w hG hN hO => by
      unfold execOp; go_simp) (fun ac w hG hN => rfl)
   case behind =>
    intro ac w5 hG hV hS ha
    have h5 : OwnTxt wr w5 (slot ac 26) L := hV 5 (by decide) (by decide)
    have h6 : slot ac 27 = .int .i64 (zk : Nat) := hV 6 (by decide) (by decide)
    have h7 : slot ac 28 = .int .i64 0 := hV 7 (by decide) (by decide)
    generalize slot ac = sl at ha h5 h6 h7
    subst ha
    simp only [patchL, List.contains_cons, List.contains_nil, Nat.reduceBEq, Bool.or_false, Bool.or_true, if_true, Bool.false_eq_true, if_false, Nat.reduceAdd]
    generalize sl 21 = s21
    generalize sl 22 = s22
    generalize sl 23 = s23
    generalize sl 24 = s24
    generalize sl 25 = s25
    generalize sl 26 = s26 at h5 ⊢
    generalize sl 27 = s27 at h6 ⊢
    generalize sl 28 = s28 at h7 ⊢
    subst h6
    subst h7
    clear hV hS
    have HBQ := Lib.hid hG.below
    have HL0 := Lib.hid (Inn.zero HT.out HSP.out HBQ.out HGR.out HR3.out h5)
    have HKL := Lib.hid h5
    obtain ⟨_, ka, kc, hvk, _, _⟩ := h5.strs
    rw [strsOf_len, ← HZK.out] at hvk
    clear h5 hG
    subst hvk
    go_wp2_with fail
    go_loopw [28] (fun k wr2 => ∃ (m : Nat), k = .int .i64 m ∧ m ≤ zk ∧ ∃ (R : List Txt) (vQ : Value), Inn w S b3 #[.slice ao zo co, .map (some Bm)] bf bw bt Bm fk O r F i L (.slice ka zk kc) m R vQ wr wr2) (fun k _ => zk - (intOf k).toNat)
    case atStart => exact ⟨0, rfl, Nat.zero_le _, [], _, HL0.out⟩
    case round =>
     obtain ⟨m, rfl, hm, R, vQ2, hI⟩ := hrel
     have HI := Lib.hid hI
     by_cases hml : m < zk
     ·have hmL : m < L.length := by have := HZK.out; omega
      obtain ⟨_, _, _, hev, _, hc⟩ := hI.lst.strs
      rw [strsOf_len, ← HZK.out] at hev
      cases hev
      obtain ⟨b2, off2, rfl, hbl2, g⟩ := hc (by rw [strsOf_len]; omega)
      have d0 := g m (by rw [strsOf_len]; exact hmL)
      rw [strsOf_get hmL] at d0
      obtain ⟨t2, ht2⟩ : ∃ t2, t2 = L[m] := ⟨_, rfl⟩
      rw [← ht2] at d0
      obtain ⟨y, hy⟩ : ∃ y : ByteArray, y = ⟨t2.toArray⟩ := ⟨_, rfl⟩
      rw [← hy] at d0
      have hys : y.data.toList = L[m] := by rw [hy, ← ht2]
      have HC := Lib.hid (hand_any O r w S bf bw bt Bm fk HT.out (F ++ R) _ vQ2 y _ hI.spr (by rw [hys]; exact HI.out.pre HKF.out hmL))
      have HST := Lib.hid (Inn.step HT.out HI.out HKF.out hmL hys)
      have hbm : decide ((m : Int) < (zk : Int)) = true := by simpa using (show (m : Int) < zk by omega)
      clear hc g ht2 hy hI hys hmL
      go_wp2_with fail
      refine HC.out.mono ?_
      rintro e w8 hret
      obtain ⟨rfl, R2, vQ3, h8⟩ := HST.out e w8 hret
      have H8 := Lib.hid h8
      clear hret h8 d0
      go_wp2
      go_roundw
      case rel => exact ⟨m + 1, by go_num, by omega, R2, vQ3, H8.out⟩
      case measure => simp [intOf]; omega
     ·have hme : m = L.length := by have := HZK.out; omega
      have HE := Lib.hid (HI.out.done HKF.out hme)
      have hbm : decide ((m : Int) < (zk : Int)) = false := by simp; omega
      clear hI hme
      go_wp2
      go_roundw
      case rel =>
       obtain ⟨h1, h2, h3⟩ := HE.out
       exact ⟨i + 1, F ++ R, vQ2, by go_num, h1, h2, h3⟩
      case measure => simp [intOf]; omega
  ·have hj : i = F.length := by have := HZQ.out; omega
   have hD := HO.out.spr.st
   rw [hj, List.take_length] at hD
   have HD := Lib.hid hD
   have hbk : decide ((i : Int) < (zq : Int)) = false := by simp; omega
   clear hj hD hc hzq
   go_wp2
   go_end0
   exact ⟨rfl, F, by rw [← HRK.out]; exact HD.out, HGR.out.1⟩
set_option maxRecDepth 100000 in
set_option maxHeartbeats 8000000 in
theorem turnLess_zero (bt Bm : Nat) (v0 : Value) (U : List Txt) (f : Txt → Nat) (k : ByteArray) (w : World) (hr : Row w bt #[v0, .map (some Bm)] 69) (ht : Tal w Bm U f) (h32 : k.data.toList.length = 32) (hf : f k.data.toList = 0) :
  Calls Tryz.prog 56 #[.string k, .pointer (some ⟨bt, 0, none⟩)] w fun e w' => e = .returned (.bool false) ∧ w = w' := by
 obtain ⟨D, ho, hh, ha⟩ := ht
 obtain ⟨t, hkt⟩ : ∃ t, t = k.data.toList := ⟨_, rfl⟩
 have hkey : keyOf Tryz.prog 9 (.string k) = some (.string t) := by
  rw [hkt]
  exact Go.WideMaps.keyOf_string_mk Tryz.underlying9 (by rw [Lib.size_eq, h32]; decide)
 rw [← hkt] at hf
 have HO := Lib.hid ho
 have HAT : Hid (D.atKey (.string t) (numD 0) = numD 0) := Lib.hid (by rw [ha, hf])
 have c1 : w.cell? ⟨bt, 1, none⟩ = some (.map (some Bm)) := hr.cell 1
 have hbl := hr.lt
 clear ho hh ha hr hf hkt h32
 go_enter Tryz.func56, Tryz.ntmps56
 go_wp2_with (at_lookup; refine wpList_lookup_own_int _ rfl _ _ 67 rfl 9 3 .i64 strK_Ctg Tryz.underlying67 Tryz.underlying3 (zeroInt_run _) Bm 900000 D rfl HO.out _ _ rfl hkey ?_)
 intro c hat hwc
 obtain rfl : c = 0 := numD_inj (n := 0) (by rw [← hat]; exact HAT.out.symm)
 clear hat hwc
 go_wp2
 go_ret
 exact ⟨rfl, rfl⟩
set_option maxRecDepth 100000 in
set_option maxHeartbeats 8000000 in
theorem turnLess_any (bt Bm : Nat) (v0 : Value) (U : List Txt) (f : Txt → Nat) (k : ByteArray) (w : World) (hr : Row w bt #[v0, .map (some Bm)] 69) (ht : Tal w Bm U f) (hU : U.length ≤ 800000) (hk : k.data.toList ∈ U) (h32 : k.data.toList.length = 32) (hf : f k.data.toList ≤ 1000000000000000) (hz : f k.data.toList ≠ 0) :
  Calls Tryz.prog 56 #[.string k, .pointer (some ⟨bt, 0, none⟩)] w fun e w' => e = .returned (.bool (decide (f k.data.toList = 1))) ∧ Tal w' Bm U (putF f k.data.toList (f k.data.toList - 1)) ∧ w.grownBy w' (some Bm) := by
 have hne := ht.row_ne hr
 obtain ⟨D, ho, hh, ha⟩ := ht
 obtain ⟨t, hkt⟩ : ∃ t, t = k.data.toList := ⟨_, rfl⟩
 have hkey : keyOf Tryz.prog 9 (.string k) = some (.string t) := by
  rw [hkt]
  exact Go.WideMaps.keyOf_string_mk Tryz.underlying9 (by rw [Lib.size_eq, h32]; decide)
 rw [← hkt] at hk hf hz ⊢
 obtain ⟨p, hp⟩ : ∃ p, f t = p + 1 := ⟨f t - 1, by omega⟩
 have hn : f t = p + 1 := hp
 rw [hn] at hf ⊢
 rw [show p + 1 - 1 = p from rfl]
 have HO := Lib.hid ho; have HH := Lib.hid hh; have HA := Lib.hid ha; have HR := Lib.hid hr; have HK := Lib.hid hk; have HN := Lib.hid hn; have HU := Lib.hid hU
 have c1 : w.cell? ⟨bt, 1, none⟩ = some (.map (some Bm)) := hr.cell 1
 have hbl := hr.lt
 have hwf : (Lit.int .i64 (p : Int)).wf = true := WalkArith.wf_i64 ⟨by omega, by omega⟩
 have HWF := Lib.hid hwf
 have q0 : ((p : Int) + 1 == 0) = false := beq_eq_false_iff_ne.2 (by omega)
 clear hh ha hr hk hn hp hkt hU hwf h32 hz
 go_enter Tryz.func56, Tryz.ntmps56
 go_wp2_with (at_lookup; refine wpList_lookup_own_int _ rfl _ _ 67 rfl 9 3 .i64 strK_Ctg Tryz.underlying67 Tryz.underlying3 (zeroInt_run _) Bm 900000 D rfl HO.out _ _ rfl hkey ?_)
 intro c hat hwc
 obtain rfl : c = (p : Int) + 1 := (numD_inj (n := p + 1) (by rw [← hat]; exact (by rw [← HN.out]; exact (HA.out t).symm))).trans (by simp)
 clear hat hwc
 go_wp2_with (at_lookup; refine wpList_lookup_own_int _ rfl _ _ 67 rfl 9 3 .i64 strK_Ctg Tryz.underlying67 Tryz.underlying3 (zeroInt_run _) Bm 900000 D rfl HO.out _ _ rfl hkey ?_)
 intro c hat hwc
 obtain rfl : c = (p : Int) + 1 := (numD_inj (n := p + 1) (by rw [← hat]; exact (by rw [← HN.out]; exact (HA.out t).symm))).trans (by simp)
 clear hat hwc
 have hsub : IntKind.i64.wrap ((p : Int) + 1 - 1) = (p : Int) := by rw [IntWalk.i64_in _ (by omega)]; omega
 have hsub2 : (p : Int) + 1 - 1 = p := by omega
 go_wp2_with (at_mapUpdate; refine wpList_mapUpdate_own _ rfl _ _ _ 67 rfl 9 3 strK_Ctg Tryz.underlying67 (plainElem Tryz.prog 3) Bm 900000 D rfl HO.out (by unfold maxLen; omega) _ _ _ rfl rfl hkey (numD p) [] (by first | exact plainElem_int Tryz.underlying3 HWF.out | (rw [hsub2]; exact plainElem_int Tryz.underlying3 HWF.out)) ?_)
 intro w2 ho2 hg2
 have HT2 := Lib.hid (tal_put HU.out HK.out HO.out HH.out HA.out ho2)
 have HO2 := Lib.hid ho2; have HG2 := Lib.hid hg2
 have hr2 : Row w2 bt #[v0, .map (some Bm)] 69 := (hg2.block bt hbl (fun e => hne (by cases e; rfl))).trans HR.out
 have d1 : w2.cell? ⟨bt, 1, none⟩ = some (.map (some Bm)) := hr2.cell 1
 have hbl2 := hr2.lt
 have HAT : Hid ((D.put (.string t) (numD p)).atKey (.string t) (numD 0) = numD p) := Lib.hid (by
  rw [put_atKey HO.out.isMap HA.out t, putF_same])
 clear ho2 hg2 hr2 c1 hsub hsub2
 go_wp2_with (at_lookup; refine wpList_lookup_own_int _ rfl _ _ 67 rfl 9 3 .i64 strK_Ctg Tryz.underlying67 Tryz.underlying3 (zeroInt_run _) Bm 900001 _ rfl HO2.out _ _ rfl hkey ?_)
 intro c hat hwc
 obtain rfl : c = (p : Int) := numD_inj (n := p) (by rw [← hat]; exact HAT.out.symm)
 clear hat hwc
 go_wp2
 go_ret
 refine ⟨ret_val (congrArg Value.bool (?_ : ((p : Int) == 0) = decide (p + 1 = 1))), HT2.out, HG2.out⟩
 by_cases e : p = 0
 ·subst e; rfl
 ·rw [decide_eq_false (by omega)]
  exact beq_eq_false_iff_ne.2 (by omega)
theorem Tal.same {w w' : World} {Bm : Nat} {U : List Txt} {f : Txt → Nat} (h : Tal w Bm U f) (hs : w'.heap[Bm]? = w.heap[Bm]?) : Tal w' Bm U f := by
 obtain ⟨D, ⟨es, clock, hb, hr⟩, h2⟩ := h
 exact ⟨D, ⟨es, clock, hs.trans hb, hr⟩, h2⟩
def TurnS (PM : List Txt → List Txt → (Txt → Nat) → Prop) (bt Bm : Nat) (v0 : Value) (U F H : List Txt) (w : World) : Prop :=
 Row w bt #[v0, .map (some Bm)] 69 ∧ ∃ f, PM F H f ∧ Tal w Bm U f
theorem turnS_kept {PM : List Txt → List Txt → (Txt → Nat) → Prop} {bt Bm : Nat} {v0 : Value} {U : List Txt} (F H : List Txt) (w w' : World) (h : TurnS PM bt Bm v0 U F H w) (h1 : w'.heap[bt]? = w.heap[bt]?) (h2 : w'.heap[Bm]? = w.heap[Bm]?) : TurnS PM bt Bm v0 U F H w' := by
 obtain ⟨h3, f, h4, h5⟩ := h
 exact ⟨h1.trans h3, f, h4, h5.same h2⟩
theorem fresh_in {O : List Ob} {f0 : Txt → Nat} {r : Txt} {U : List Txt} (hr : r ∈ U) (hk : ∀ j, FreshO O f0 r j → ∀ u ∈ kidsO O j, u ∈ U) {t : Txt} (h : FreshO O f0 r t) : t ∈ U := by
 cases h with
 | start _ => exact hr
 | kid h1 h2 _ => exact hk _ h1 _ h2
theorem que_32 {O : List Ob} {r : Txt} {F : List Txt} {t : Txt} (hr : r.length = 32) (h : t ∈ queC O r F) : t.length = 32 := by
 rcases queC_mem.1 h with rfl | ⟨j, _, h2⟩
 ·exact hr
 ·exact kidsO_len h2
theorem turnOk_more (O : List Ob) (f0 : Txt → Nat) (r : Txt) (bt Bm : Nat) (v0 : Value) (U : List Txt) (hr : r.length = 32) (hrU : r ∈ U) (hkU : ∀ j, FreshO O f0 r j → ∀ u ∈ kidsO O j, u ∈ U) (hU : U.length ≤ 800000) (hf : ∀ t, f0 t ≤ 100000000000000) :
  TurnOk O r (TurnS (PlusP O f0 r) bt Bm v0 U) Bm 53 bt where
 ent := enters_of Tryz.func53 (by kernel_rfl) rfl
 call F H k w hs hk := by
  obtain ⟨h3, f, h4, h5⟩ := hs
  have hmem := pre_mem hk
  have hin : k.data.toList ∈ U := by
   rcases queC_mem.1 hmem with e | ⟨j, h1, h2⟩
   ·rw [e]; exact hrU
   ·exact hkU j (h4.fresh j h1) _ h2
  have hFU : ∀ t ∈ F, t ∈ U := fun t ht => fresh_in hrU hkU (h4.fresh t ht)
  have hle : f k.data.toList ≤ 1000000000000000 := by
   have h6 := plusP_le h4 k.data.toList
   have h7 := hf k.data.toList
   have h8 := queC_len (O := O) (r := r) h4.nodup hFU (kidsL_len O)
   have h9 := hk.length_le
   rw [List.length_append] at h9
   omega
  refine (turnMore_any bt Bm v0 U f k w h3 h5 hU hin (que_32 hr hmem) hle).mono ?_
  rintro e w' ⟨rfl, h6, h7⟩
  refine ⟨_, rfl, ⟨?_, _, ?_, h6⟩, h7⟩
  ·have hne := h5.row_ne h3
   exact (h7.block bt h3.lt (fun e => hne (by cases e; rfl))).trans h3
  ·have := plusP_step h4 hk
   by_cases e : f k.data.toList = 0
   ·rw [if_pos e] at this; rw [if_pos (decide_eq_true e)]; exact this
   ·rw [if_neg e] at this; rw [if_neg (by simpa using e)]; exact this
 kept := turnS_kept
 map F H w hs := ⟨by obtain ⟨_, f, _, h⟩ := hs; exact h.block, _, hs.1⟩
 few F H w hs := by
  obtain ⟨_, f, h4, _⟩ := hs
  exact Nat.le_trans (nodup_len h4.nodup fun t ht => fresh_in hrU hkU (h4.fresh t ht)) hU
theorem turnOk_less (O : List Ob) (f0 : Txt → Nat) (r : Txt) (bt Bm : Nat) (v0 : Value) (U : List Txt) (hr : r.length = 32) (hfU : ∀ t, f0 t ≠ 0 → t ∈ U) (hU : U.length ≤ 800000) (hf : ∀ t, f0 t ≤ 1000000000000000) :
  TurnOk O r (TurnS (MinusP O f0 r) bt Bm v0 U) Bm 56 bt where
 ent := enters_of Tryz.func56 (by kernel_rfl) rfl
 call F H k w hs hk := by
  obtain ⟨h3, f, h4, h5⟩ := hs
  have hmem := pre_mem hk
  by_cases hz : f k.data.toList = 0
  ·refine (turnLess_zero bt Bm v0 U f k w h3 h5 (que_32 hr hmem) hz).mono ?_
   rintro e w' ⟨rfl, rfl⟩
   exact ⟨false, rfl, ⟨h3, f, minusP_pass h4 hz, h5⟩, ⟨rfl, rfl, rfl, Nat.le_refl _, fun _ _ _ => rfl⟩⟩
  ·have hle := minusP_le h4 k.data.toList
   refine (turnLess_any bt Bm v0 U f k w h3 h5 hU (hfU _ (by omega)) (que_32 hr hmem) (Nat.le_trans hle (hf _)) hz).mono ?_
   rintro e w' ⟨rfl, h6, h7⟩
   refine ⟨_, rfl, ⟨?_, _, ?_, h6⟩, h7⟩
   ·have hne := h5.row_ne h3
    exact (h7.block bt h3.lt (fun e => hne (by cases e; rfl))).trans h3
   ·have := minusP_step h4 hk hz
    by_cases e : f k.data.toList = 1
    ·rw [if_pos e] at this; rw [if_pos (decide_eq_true e)]; exact this
    ·rw [if_neg e] at this; rw [if_neg (by simpa using e)]; exact this
 kept := turnS_kept
 map F H w hs := ⟨by obtain ⟨_, f, _, h⟩ := hs; exact h.block, _, hs.1⟩
 few F H w hs := by
  obtain ⟨_, f, h4, _⟩ := hs
  exact Nat.le_trans (nodup_len h4.nodup fun t ht => hfU t (by have := ((h4.mem t).1 ht).1; omega)) hU
section
variable (ao : Option Addr) (zo co Bm : Nat) (O : List Ob) (k : ByteArray) (U : List Txt) (f0 : Txt → Nat) (w : World)
set_option maxRecDepth 100000 in
set_option maxHeartbeats 8000000 in
theorem more_any (hob : IsObs w (.slice ao zo co) O) (hr : RiseO O) (hl : O.length ≤ 1000000) (hz : ∀ y ∈ O, y.r.size ≤ 1000000) (hE : ErrT w) (ht : Tal w Bm U f0)
  (hk : k.data.toList.length = 32) (hrU : k.data.toList ∈ U) (hkU : ∀ j, FreshO O f0 k.data.toList j → ∀ u ∈ kidsO O j, u ∈ U) (hU : U.length ≤ 800000) (hf : ∀ t, f0 t ≤ 100000000000000) :
  Calls Tryz.prog 32 #[.agg #[.slice ao zo co, .map (some Bm)], .string k] w fun e w' => e = .returned (.tuple #[]) ∧ w.grownBy w' (some Bm) ∧ ∃ F, F.Nodup ∧ (∀ t, t ∈ F ↔ FreshO O f0 k.data.toList t) ∧ Tal w' Bm U (plusF O f0 k.data.toList F) := by
 have hb0 : Below w.heap.size w (w.alloc (.cells #[.slice ao zo co, .map (some Bm)] 69)) := (Below.refl _ _).alloc (Nat.le_refl _) _
 have C := Lib.hid (cspread_any ao zo co Bm O k _ w.heap.size _ _ (turnOk_more O f0 k.data.toList w.heap.size Bm (.slice ao zo co) U hk hrU hkU hU hf) (hob.stays hb0) hr hl hz (hE.stays hb0) ⟨Row.made _ _ _, f0, plusP_zero _ _ _, ht.stays hb0⟩)
 have HB0 := Lib.hid hb0
 clear hob hr hl hz hE ht hk hrU hkU hU hf hb0
 go_enter Tryz.func32, Tryz.ntmps32
 go_wp2_with fail
 refine C.out.mono ?_
 rintro e w1 ⟨rfl, F, ⟨_, f, hp, ht⟩, hg⟩
 have HP := Lib.hid (plusP_done hp); have HT := Lib.hid ht; have HG := Lib.hid (grown_after (grownBy_of_below HB0.out) hg)
 clear hp ht hg
 go_wp2
 go_end0
 obtain ⟨h1, h2, h3⟩ := HP.out
 refine ⟨rfl, HG.out, F, h1, h2, ?_⟩
 have e : f = plusF O f0 k.data.toList F := funext h3
 rw [← e]; exact HT.out
set_option maxRecDepth 100000 in
set_option maxHeartbeats 8000000 in
theorem less_any (hob : IsObs w (.slice ao zo co) O) (hr : RiseO O) (hl : O.length ≤ 1000000) (hz : ∀ y ∈ O, y.r.size ≤ 1000000) (hE : ErrT w) (ht : Tal w Bm U f0)
  (hk : k.data.toList.length = 32) (hfU : ∀ t, f0 t ≠ 0 → t ∈ U) (hU : U.length ≤ 800000) (hf : ∀ t, f0 t ≤ 1000000000000000) :
  Calls Tryz.prog 41 #[.agg #[.slice ao zo co, .map (some Bm)], .string k] w fun e w' => e = .returned (.tuple #[]) ∧ w.grownBy w' (some Bm) ∧ ∃ D, DropsO O f0 k.data.toList D ∧ Tal w' Bm U (minusF O f0 k.data.toList D) := by
 have hb0 : Below w.heap.size w (w.alloc (.cells #[.slice ao zo co, .map (some Bm)] 69)) := (Below.refl _ _).alloc (Nat.le_refl _) _
 have C := Lib.hid (cspread_any ao zo co Bm O k _ w.heap.size _ _ (turnOk_less O f0 k.data.toList w.heap.size Bm (.slice ao zo co) U hk hfU hU hf) (hob.stays hb0) hr hl hz (hE.stays hb0) ⟨Row.made _ _ _, f0, minusP_zero _ _ _, ht.stays hb0⟩)
 have HB0 := Lib.hid hb0
 clear hob hr hl hz hE ht hk hfU hU hf hb0
 go_enter Tryz.func41, Tryz.ntmps41
 go_wp2_with fail
 refine C.out.mono ?_
 rintro e w1 ⟨rfl, F, ⟨_, f, hp, ht⟩, hg⟩
 have HP := Lib.hid (minusP_done hp); have HT := Lib.hid ht; have HG := Lib.hid (grown_after (grownBy_of_below HB0.out) hg)
 clear hp ht hg
 go_wp2
 go_end0
 obtain ⟨h1, h3⟩ := HP.out
 refine ⟨rfl, HG.out, F, h1, ?_⟩
 have e : f = minusF O f0 k.data.toList F := funext h3
 rw [← e]; exact HT.out
end
end Go.Proofs.YtokknppjeckppaaGreatDoor
set_option linter.unusedVariables false
namespace Go.Proofs.YtokknppjeckppaaGreatDoor
open Go Go.RowKit Go.Maps Go.Sort Go.Shelf
theorem mapKeys_any (mb : Option Nat) (W : World) : Calls Tryz.prog 55 #[.map mb] W fun e w' => e = .returned (.func (.func 82) #[] #[.pointer (some ⟨W.heap.size, 0, none⟩)]) ∧ w' = W.alloc (.cells #[.map mb] 67) :=
 (callsIn_wide (n := 5)).1 (AnyZ.keys_in Tryz.layg55 Fence.wide 5 trivial rfl mb W)
theorem sorts_Cts (m : Nat) : AnyZ.SortsIn Tryz.prog Tryz.layg54_ren Fence.wide m :=
  ⟨fun blk off cap ss W hH hblk hsz => callsIn_wide.2 (Any.slices_Sort_string Tryz.lays190 blk off cap ss W hH hblk hsz),
   fun p cap W => callsIn_wide.2 (Any.slices_Sort_string_none Tryz.lays190 p cap W)⟩
set_option maxHeartbeats 1000000 in
theorem sortedKeys_any (b nn : Nat) (D0 : DataW Unit) (w : World) (hown : w.ownsMap Tryz.prog 9 (plainElem Tryz.prog 3) b nn D0) (hmax : Maps.size D0 ≤ 1000000) (q : Nat) (hq : q = w.heap.size) :
  Calls Tryz.prog 54 #[.func (.func 82) #[] #[.pointer (some ⟨q, 0, none⟩)]] (w.alloc (.cells #[.map (some b)] 67)) fun e w' => ∃ v, e = .returned v ∧ OwnTxt (w.alloc (.cells #[.map (some b)] 67)) w' v ((strKeys D0).mergeSort leB) ∧ Below (w.alloc (.cells #[.map (some b)] 67)).heap.size (w.alloc (.cells #[.map (some b)] 67)) w' := by
 subst hq
 have hbl := hown.lt
 have hm : Maps.size D0 ≤ maxLen := by unfold maxLen; omega
 have hbytes : Maps.size D0 * 16 ≤ 140737488355328 := by omega
 have hseq : SeqGives Fence.wide 2 Tryz.prog 82 #[.pointer (some ⟨w.heap.size, 0, none⟩)] encStr (fun ss => ss.Perm (strKeys D0)) (Maps.size D0) (w.alloc (.cells #[.map (some b)] 67)) :=
  AnyZ.keys_gives (ρ := Tryz.layg55_ren) { Tryz.layg55 with } Fence.wide _ trivial rfl (by omega) w.heap.size b nn D0 _ (by simp) (by simp) (by
   obtain ⟨es, clock, hb, Ft, hs, hD⟩ := hown
   exact ⟨es, clock, (Below.heap_alloc _ _ b hbl).trans hb, Ft, hs, hD⟩)
 have h := (callsIn_wide (n := 5)).1 (AnyZ.sorted_in Tryz.layg54 Fence.wide 5 trivial trivial trivial trivial rfl (by omega) (sorts_Cts _) (enters_of Tryz.func81 (by kernel_rfl) rfl) 82 #[.pointer (some ⟨w.heap.size, 0, none⟩)] trivial (enters_of Tryz.func82 (by kernel_rfl) rfl) _ _ hm hbytes _ hseq)
 refine h.mono ?_
 rintro e w' ⟨v, ss, rfl, hp, hrow, _, hb⟩
 refine ⟨v, rfl, ?_, hb⟩
 have e1 : ss.mergeSort leB = (strKeys D0).mergeSort leB := mergeSort_of_perm hp
 have e2 : (ss.mergeSort fun x y => decide (x ≤ y)) = (strKeys D0).mergeSort leB := e1
 have e3 : ((strKeys D0).mergeSort leB).length = ss.length := by rw [List.length_mergeSort, hp.length_eq]
 unfold OwnTxt
 rw [strsOf_len, e3]
 rw [e2] at hrow
 have e4 : strCells (strsOf ((strKeys D0).mergeSort leB)) = ((strKeys D0).mergeSort leB).map encStr := by
  simp [strCells, strsOf, Function.comp_def]
 rw [e4]
 exact hrow
end Go.Proofs.YtokknppjeckppaaGreatDoor
set_option linter.unusedVariables false
namespace Go.Proofs.YtokknppjeckppaaGreatDoor
open Go Go.RowKit Go.Maps Go.Sort
attribute [local go_sem] Oper.semAt_some
theorem tal_has {D : DataW Unit} {f : Txt → Nat} {t : Txt} (h : ∀ x : Txt, D.atKey (.string x) (numD 0) = numD (f x)) (ht : f t ≠ 0) : Maps.has D (.string t) = true := by
 cases hh : Maps.has D (.string t) with
 | true => rfl
 | false =>
  have h3 := h t
  rw [Maps.atKey_of_not_has hh] at h3
  exact absurd (by have := numD_inj h3.symm; omega) ht
theorem mapC_len (f : Txt → Nat) (S : List Txt) (k : Nat) : (mapC f (S.take k)).length ≤ S.length := by
 unfold mapC listC
 rw [List.length_map]
 refine Nat.le_trans (List.length_filter_le _ _) ?_
 rw [List.length_take]; omega
set_option maxRecDepth 100000 in
set_option maxHeartbeats 16000000 in
theorem counts_any (ao : Option Addr) (zo co Bm : Nat) (U : List Txt) (f : Txt → Nat) (w : World) (ht : Tal w Bm U f) (hU : U.length ≤ 800000) (h32 : ∀ t ∈ U, t.length = 32) :
  Calls Tryz.prog 33 #[.agg #[.slice ao zo co, .map (some Bm)]] w fun e w' => ∃ v C, e = .returned v ∧ OwnC w.heap.size w' v C ∧ FitC C ∧ (∀ t, nC C t = f t) ∧ Below w.heap.size w w' := by
 have hb0 : Below w.heap.size w (w.alloc (.cells #[.slice ao zo co, .map (some Bm)] 69)) := (Below.refl _ _).alloc (Nat.le_refl _) _
 have HR0 : Hid (Row (w.alloc (.cells #[.slice ao zo co, .map (some Bm)] 69)) w.heap.size #[.slice ao zo co, .map (some Bm)] 69) := Lib.hid (Row.made _ _ _)
 obtain ⟨D, ho, hh, ha⟩ := ht.stays hb0
 obtain ⟨k1, k2, k3⟩ := strKeys_spec ho
 have hsz : Maps.size D ≤ 800000 := by rw [← k3]; exact Nat.le_trans (nodup_len k1 fun x hx => hh x ((k2 x).1 hx)) hU
 have CK := Lib.hid (mapKeys_any (some Bm) (w.alloc (.cells #[.slice ao zo co, .map (some Bm)] 69)))
 have CS := Lib.hid (sortedKeys_any Bm 900000 D _ ho (by omega) (w.heap.size + 1) (by simp))
 obtain ⟨S, hS⟩ : ∃ S, S = (strKeys D).mergeSort leB := ⟨_, rfl⟩
 have hrise : Rises S := by rw [hS]; exact sort_rises k1
 have hmem : ∀ t, t ∈ S ↔ Maps.has D (.string t) = true := fun t => by rw [hS, List.mem_mergeSort, k2]
 have hlen : S.length ≤ 800000 := by rw [hS, List.length_mergeSort, k3]; exact hsz
 rw [← hS] at CS
 have HN : Hid (∀ t, t ∉ S → f t = 0) := Lib.hid (fun t h => Classical.byContradiction fun h2 => h ((hmem t).2 (tal_has ha h2)))
 have HRI := Lib.hid hrise
 have H32 : Hid (∀ t ∈ S, t.length = 32) := Lib.hid (fun t h => h32 t (hh t ((hmem t).1 h)))
 have HO := Lib.hid ho; have HA := Lib.hid ha; have HB0 := Lib.hid hb0
 have hBl : Bm < (w.alloc (.cells #[.slice ao zo co, .map (some Bm)] 69)).heap.size := ho.lt
 have HBL := Lib.hid hBl
 clear ht hU h32 hb0 ho hh ha k1 k2 k3 hsz hS hrise hmem hBl
 go_enter Tryz.func33, Tryz.ntmps33
 go_wp2_with fail
 refine CK.out.mono ?_
 rintro e w1 ⟨rfl, rfl⟩
 go_wp2_with fail
 refine CS.out.mono ?_
 rintro e w2 ⟨vs, rfl, hos, hb2⟩
 have hb1 : Below w.heap.size w ((w.alloc (.cells #[.slice ao zo co, .map (some Bm)] 69)).alloc (.cells #[.map (some Bm)] 67)) := HB0.out.alloc HB0.out.size _
 have HB2 := Lib.hid (below_step hb1 hb2)
 have hb12 : Below (w.alloc (.cells #[.slice ao zo co, .map (some Bm)] 69)).heap.size (w.alloc (.cells #[.slice ao zo co, .map (some Bm)] 69)) w2 := below_step ((Below.refl _ _).alloc (Nat.le_refl _) _) hb2
 have HR2 := Lib.hid (HR0.out.step hb12)
 have HO2 : Hid (w2.ownsMap Tryz.prog 9 (plainElem Tryz.prog 3) Bm 900000 D) := Lib.hid (HO.out.kept (grownBy_of_below hb12) (by simp))
 have HOS := Lib.hid hos
 obtain ⟨_, sa, sc, hvs, _, _⟩ := hos.strs
 rw [strsOf_len] at hvs
 obtain ⟨z, hz⟩ : ∃ z, z = S.length := ⟨_, rfl⟩
 rw [← hz] at hvs hlen
 have HZ := Lib.hid hz
 clear hos hb1 hb2 hb12 hz CK CS HR0 HBL HO
 subst hvs
 go_wp2_with fail
 go_loopw [3, 12] (fun o i wr => ∃ (k : Nat) (u : Value), k ≤ z ∧ i = .int .i64 k ∧ u = o ∧ OwnC w2.heap.size wr u (mapC f (S.take k)) ∧ Below w2.heap.size w2 wr) (fun _ i _ => z - (intOf i).toNat)
 case atStart => exact ⟨0, _, Nat.zero_le _, rfl, rfl, cts_own_nil _ _, Below.refl _ _⟩
 case round =>
  obtain ⟨k, u, hk, rfl, rfl, hO, hB⟩ := hrel
  have HOU := Lib.hid hO; have HB := Lib.hid hB
  have hol : (mapC f (S.take k)).length ≤ 800000 := by have := mapC_len f S k; rw [← HZ.out] at this; omega
  obtain ⟨_, ua, uc, hu, _, _⟩ := hO.is
  obtain ⟨m, hm⟩ : ∃ m, m = (mapC f (S.take k)).length := ⟨_, rfl⟩
  rw [← hm] at hu hol
  have HM := Lib.hid hm
  subst hu
  by_cases hlt : k < z
  ·have hkl : k < S.length := by have := HZ.out; omega
   obtain ⟨_, _, _, e, _, hc⟩ := (HOS.out.stays hB).strs
   rw [strsOf_len, ← HZ.out] at e
   cases e
   obtain ⟨b, off, rfl, hbl, g⟩ := hc (by rw [strsOf_len]; omega)
   have c0 := g k (by rw [strsOf_len]; exact hkl)
   rw [strsOf_get hkl] at c0
   have HST := Lib.hid (mapC_snoc (f := f) hkl)
   have h32 := H32.out _ (List.getElem_mem hkl)
   obtain ⟨t, htt⟩ : ∃ t, t = S[k] := ⟨_, rfl⟩
   rw [← htt] at c0 HST h32
   obtain ⟨x, hx⟩ : ∃ x : ByteArray, x = ⟨t.toArray⟩ := ⟨_, rfl⟩
   rw [← hx] at c0 HST
   have hxt : x.data.toList = t := by rw [hx]
   have hkey : keyOf Tryz.prog 9 (.string x) = some (.string t) := by
    rw [← hxt]
    exact Go.WideMaps.keyOf_string_mk Tryz.underlying9 (by rw [Lib.size_eq, hxt, h32]; decide)
   have hrow := HR2.out.step hB
   have r1 : wr.cell? ⟨w.heap.size, 1, none⟩ = some (.map (some Bm)) := hrow.cell 1
   have hrl := hrow.lt
   have HOW : Hid (wr.ownsMap Tryz.prog 9 (plainElem Tryz.prog 3) Bm 900000 D) := Lib.hid (HO2.out.kept (grownBy_of_below hB) (by simp))
   obtain ⟨n, hn⟩ : ∃ n, n = f t := ⟨_, rfl⟩
   have HNN := Lib.hid hn
   rw [← hn] at HST
   have hbk : decide ((k : Int) < (z : Int)) = true := by simpa using (show (k : Int) < z by omega)
   have HS1 : Hid (w2.heap.size ≤ wr.heap.size) := Lib.hid hB.size
   clear hO hB hm hc g htt hx hxt h32 hrow hn hkl
   by_cases h0 : n = 0
   ·have q0 : ((n : Int) != 0) = false := by subst h0; rfl
    have HS := Lib.hid (HST.out.trans (if_pos h0))
    clear h0
    go_wp2_with (at_lookup; refine wpList_lookup_own_int _ rfl _ _ 67 rfl 9 3 .i64 strK_Ctg Tryz.underlying67 Tryz.underlying3 (zeroInt_run _) Bm 900000 D rfl HOW.out _ _ rfl hkey ?_)
    intro c hat hwc
    obtain rfl : c = n := numD_inj (n := n) (by rw [← hat, HNN.out]; exact (HA.out t).symm)
    clear hat hwc
    go_wp2
    go_roundw
    case rel => exact ⟨k + 1, _, by omega, by go_num, rfl, by rw [HS.out]; exact HOU.out, HB.out⟩
    case measure => simp [intOf]; omega
   ·have q0 : ((n : Int) != 0) = true := by simp; omega
    have HS := Lib.hid (HST.out.trans (if_neg h0))
    clear h0
    go_wp2_with (at_lookup; refine wpList_lookup_own_int _ rfl _ _ 67 rfl 9 3 .i64 strK_Ctg Tryz.underlying67 Tryz.underlying3 (zeroInt_run _) Bm 900000 D rfl HOW.out _ _ rfl hkey ?_)
    intro c hat hwc
    obtain rfl : c = n := numD_inj (n := n) (by rw [← hat, HNN.out]; exact (HA.out t).symm)
    clear hat hwc
    go_wp2_with (at_builtin; refine wpList_append_ct rfl _ _ rfl HOU.out HS1.out rfl rfl rfl (by rw [← HM.out]; omega) ?_)
    intro v' w4 ho4 hg4
    have HO4 := Lib.hid ho4; have HB4 := Lib.hid (HB.out.grown hg4 HS1.out (fun j hj => (HOU.out.lt j hj).1))
    clear ho4 hg4 c0 r1
    go_wp2
    go_roundw
    case rel => exact ⟨k + 1, v', by omega, by go_num, rfl, by rw [HS.out]; exact HO4.out, HB4.out⟩
    case measure => simp [intOf]; omega
  ·have hall : S.take k = S := List.take_of_length_le (by have := HZ.out; omega)
   rw [hall] at hO
   have HOE := Lib.hid (hO.low HB2.out.size)
   have HBE := Lib.hid (below_step HB2.out hB)
   have hbk : decide ((k : Int) < (z : Int)) = false := by simp; omega
   clear hO hB hm hall
   go_wp2
   go_ret
   exact ⟨_, mapC f S, rfl, HOE.out, mapC_fit HRI.out, mapC_n HN.out, HBE.out⟩
end Go.Proofs.YtokknppjeckppaaGreatDoor
set_option linter.unusedVariables false
namespace Go.Proofs.YtokknppjeckppaaGreatDoor
open Go Go.RowKit Go.Maps
attribute [local go_sem] Oper.semAt_some
theorem nC_snoc {A : List Ct} {x : Ct} {t : Txt} (h : ∀ y ∈ A, y.t ≠ x.t) : nC (A ++ [x]) t = if t = x.t then x.n else nC A t := by
 by_cases e : t = x.t
 ·rw [if_pos e, e, nC_app h]
  exact if_pos rfl
 ·rw [if_neg e]
  induction A with
  | nil => exact if_neg fun h => e h.symm
  | cons y A ih =>
   show (if y.t = t then y.n else nC (A ++ [x]) t) = (if y.t = t then y.n else nC A t)
   rw [ih fun z hz => h z (List.mem_cons_of_mem _ hz)]
theorem nF_take {C : List Ct} (hC : FitC C) {k : Nat} (hk : k < C.length) : nF (C.take (k + 1)) = putF (nF (C.take k)) C[k].t C[k].n.toNat := by
 have hd : ∀ y ∈ C.take k, y.t ≠ C[k].t := fun y hy e => by
  have h := hC.1
  rw [← List.take_append_drop k C, List.drop_eq_getElem_cons hk] at h
  have := (List.pairwise_append.1 h).2.2 y hy C[k] (List.mem_cons_self ..)
  rw [e] at this; exact t_irrefl _ this
 funext t
 unfold nF putF
 rw [List.take_succ_eq_append_getElem hk, nC_snoc hd]
 by_cases e : t = C[k].t
 ·rw [if_pos e, if_pos e]
 ·rw [if_neg e, if_neg e]
theorem nF_nil : nF [] = fun _ => 0 := rfl
set_option maxRecDepth 100000 in
set_option maxHeartbeats 16000000 in
theorem newTally_any (ao : Option Addr) (zo co : Nat) (vc : Value) (C : List Ct) (w : World) (hc : IsCts w vc C) (hC : FitC C) (U : List Txt) (hU : ∀ x ∈ C, x.t ∈ U) (h32 : ∀ x ∈ C, x.t.length = 32) (hUl : U.length ≤ 800000) (hn : ∀ x ∈ C, x.n ≤ 1000000000000000) :
  Calls Tryz.prog 30 #[.slice ao zo co, vc] w fun e w' => ∃ Bm, e = .returned (.agg #[.slice ao zo co, .map (some Bm)]) ∧ w.heap.size ≤ Bm ∧ Tal w' Bm U (nF C) ∧ Below w.heap.size w w' := by
 obtain ⟨V, hV⟩ : ∃ V, V = ((w.alloc (.cells #[.slice none 0 0, .map none] 69)).alloc (.map #[] 0)).alloc (.cells #[.slice ao zo co, .map (some (w.heap.size + 1))] 69) := ⟨_, rfl⟩
 have hb1 : Below w.heap.size w (w.alloc (.cells #[.slice none 0 0, .map none] 69)) := (Below.refl _ _).alloc (Nat.le_refl _) _
 have hb2 : Below w.heap.size w ((w.alloc (.cells #[.slice none 0 0, .map none] 69)).alloc (.map #[] 0)) := hb1.alloc hb1.size _
 have hbV : Below w.heap.size w V := by rw [hV]; exact hb2.alloc hb2.size _
 have hr0 : Row V w.heap.size #[.slice none 0 0, .map none] 69 := by
  rw [hV]
  exact ((Row.made w #[.slice none 0 0, .map none] 69).alloc _).alloc _
 have hr2 : Row V (w.heap.size + 2) #[.slice ao zo co, .map (some (w.heap.size + 1))] 69 := by
  rw [hV]
  have := Row.made ((w.alloc (.cells #[.slice none 0 0, .map none] 69)).alloc (.map #[] 0)) #[.slice ao zo co, .map (some (w.heap.size + 1))] 69
  simpa using this
 have ht0 : Tal V (w.heap.size + 1) U (nF (C.take 0)) := by
  have h1 := Tal.made (w.alloc (.cells #[.slice none 0 0, .map none] 69)) U
  have h2 := h1.stays (w' := V) (by rw [hV]; exact (Below.refl _ _).alloc (Nat.le_refl _) _)
  simpa [nF_nil] using h2
 have HV := Lib.hid hV; have HBV := Lib.hid hbV; have HR0 := Lib.hid hr0; have HR2 := Lib.hid hr2; have HT0 := Lib.hid ht0
 have HI := Lib.hid hc; have HC := Lib.hid hC; have HU := Lib.hid hU; have H32 := Lib.hid h32; have HN := Lib.hid hn; have HUL := Lib.hid hUl
 obtain ⟨_, a, cap, hv, _, _⟩ := hc
 obtain ⟨z, hz⟩ : ∃ z, z = C.length := ⟨_, rfl⟩
 rw [← hz] at hv
 subst hv
 have HZ := Lib.hid hz
 have hzz : z ≤ 800000 := by
  have hr := fitC_rises hC
  have := nodup_len (rises_nodup hr) (B := U) (fun t ht => by obtain ⟨x, hx, rfl⟩ := List.mem_map.1 ht; exact hU x hx)
  rw [List.length_map] at this; omega
 clear hV hb1 hb2 hbV hr0 hr2 ht0 hC hU h32 hn hz hUl
 have hmm := @run_makeMap Tryz.prog
 go_enter Tryz.func30, Tryz.ntmps30
 go_wp2_with fail
 clear hmm
 rw [← HV.out]
 obtain ⟨br, hbr⟩ : ∃ b, b = w.heap.size := ⟨_, rfl⟩
 obtain ⟨bx, hbx⟩ : ∃ b, b = w.heap.size + 2 := ⟨_, rfl⟩
 obtain ⟨bm, hbm⟩ : ∃ b, b = w.heap.size + 1 := ⟨_, rfl⟩
 rw [← hbx] at HR2 ⊢
 rw [← hbm] at HR2 HT0 ⊢
 rw [← hbr] at HR0 ⊢
 have HBR := Lib.hid hbr; have HBX := Lib.hid hbx; have HBM := Lib.hid hbm
 clear hbr hbx hbm
 go_loopw [13] (fun i wr => ∃ (k : Nat), k ≤ z ∧ i = .int .i64 k ∧ Below w.heap.size w wr ∧ Row wr br #[.slice none 0 0, .map none] 69 ∧ Row wr bx #[.slice ao zo co, .map (some bm)] 69 ∧ Tal wr bm U (nF (C.take k))) (fun i _ => z - (intOf i).toNat)
 case atStart => exact ⟨0, Nat.zero_le _, rfl, HBV.out, HR0.out, HR2.out, HT0.out⟩
 case round =>
  obtain ⟨k, hk, rfl, hB, hr0, hr2, ht⟩ := hrel
  have HB := Lib.hid hB; have HR0 := Lib.hid hr0; have HR2 := Lib.hid hr2; have HT := Lib.hid ht
  by_cases hlt : k < z
  ·have hkl : k < C.length := by have := HZ.out; omega
   obtain ⟨_, _, _, e, _, hc⟩ := HI.out.stays hB
   rw [← HZ.out] at e
   cases e
   obtain ⟨b, off, rfl, hbl, g⟩ := hc (by omega)
   obtain ⟨c0, c1⟩ := g k hkl
   have hmem := List.getElem_mem hkl
   have hx1 := HC.out.2 _ hmem
   have hx2 := HN.out _ hmem
   have h32 := H32.out _ hmem
   have HXU := Lib.hid (HU.out _ hmem)
   have HNF := Lib.hid (nF_take HC.out hkl)
   obtain ⟨x, hx⟩ : ∃ x, x = C[k] := ⟨_, rfl⟩
   rw [← hx] at c0 c1 hx1 hx2 h32 HXU HNF
   obtain ⟨n, hn⟩ : ∃ n : Nat, x.n = n := ⟨x.n.toNat, by omega⟩
   rw [hn] at c1 hx1 hx2 HNF
   rw [Int.toNat_natCast] at HNF
   obtain ⟨s, hs⟩ : ∃ s, s = x.k := ⟨_, rfl⟩
   rw [← hs] at c0
   obtain ⟨t, htt⟩ : ∃ t, t = x.t := ⟨_, rfl⟩
   rw [← htt] at h32 HXU HNF
   have hst : s.data.toList = t := by rw [hs, htt]; rfl
   have hkey : keyOf Tryz.prog 9 (.string s) = some (.string t) := by
    rw [← hst]
    exact Go.WideMaps.keyOf_string_mk Tryz.underlying9 (by rw [Lib.size_eq, hst, h32]; decide)
   have hwf : (Lit.int .i64 (n : Int)).wf = true := WalkArith.wf_i64 ⟨by omega, by omega⟩
   have HWF := Lib.hid hwf
   have hbA : Below wr.heap.size wr (wr.alloc (.cells #[.string s, .int .i64 n] 58)) := (Below.refl _ _).alloc (Nat.le_refl _) _
   obtain ⟨D, ho, hh, ha⟩ := ht.stays hbA
   have HO := Lib.hid ho; have HH := Lib.hid hh; have HA := Lib.hid ha
   have HBA := Lib.hid hbA
   have hrx := hr2.step hbA
   have HRX := Lib.hid hrx
   have r1 : wr.cell? ⟨bx, 1, none⟩ = some (.map (some bm)) := hr2.cell 1
   have hrl := hr2.lt
   have hbk : decide ((k : Int) < (z : Int)) = true := by simpa using (show (k : Int) < z by omega)
   clear hc g hx hn hs htt hst h32 hwf hbA ho hh ha hB hr0 hr2 ht hrx hmem hkl
   go_wp2_with (at_mapUpdate; refine wpList_mapUpdate_own _ rfl _ _ _ 67 rfl 9 3 strK_Ctg Tryz.underlying67 (plainElem Tryz.prog 3) bm 900000 D rfl HO.out (by unfold maxLen; omega) _ _ _ rfl rfl hkey (numD n) [] (plainElem_int Tryz.underlying3 HWF.out) ?_)
   intro w2 ho2 hg2
   have HT2 := Lib.hid (tal_put HUL.out HXU.out HO.out HH.out HA.out ho2)
   have HG2 := Lib.hid (grown_after (grownBy_of_below HBA.out) hg2)
   clear ho2 hg2 r1 c0 c1
   go_wp2
   go_roundw
   case rel =>
    have hne0 := HT.out.row_ne HR0.out
    have hne2 := HT.out.row_ne HR2.out
    refine ⟨k + 1, by omega, by go_num, HB.out.grown HG2.out HB.out.size (fun j hj => by cases hj; rw [HBM.out]; omega), (HG2.out.block br HR0.out.lt (fun e => hne0 (by cases e; rfl))).trans HR0.out, (HG2.out.block bx HR2.out.lt (fun e => hne2 (by cases e; rfl))).trans HR2.out, ?_⟩
    rw [HNF.out]; exact HT2.out
   case measure => simp [intOf]; omega
  ·have hall : C.take k = C := List.take_of_length_le (by have := HZ.out; omega)
   rw [hall] at ht
   have HTE := Lib.hid ht
   have hne0 := ht.row_ne hr0
   have p0 : wr.cell? ⟨bx, 0, none⟩ = some (.slice ao zo co) := hr2.cell 0
   have p1 : wr.cell? ⟨bx, 1, none⟩ = some (.map (some bm)) := hr2.cell 1
   have hlx := hr2.lt
   have f0 := hr0.free 0; have f1 := hr0.free 1
   have q0 : wr.cell? ⟨br, 0, none⟩ = some (.slice none 0 0) := hr0.cell 0
   have q1 : wr.cell? ⟨br, 1, none⟩ = some (.map none) := hr0.cell 1
   have hlr := hr0.lt
   have hbk : decide ((k : Int) < (z : Int)) = false := by simp; omega
   clear hB hr0 hr2 ht hall
   go_wp2
   have hR4 := (HR0.out.set 0 (.slice ao zo co)).set 1 (.map (some bm))
   have d0 := hR4.cell 0; have d1 := hR4.cell 1
   simp at d0 d1
   refine bodyPost_ret (v := .agg #[.slice ao zo co, .map (some bm)]) (by simp [results, Tryz.results30, go_sem, d0, d1]) rfl ⟨bm, rfl, by rw [HBM.out]; omega, ?_, ?_⟩
   ·have h1 := HTE.out.kept (grownBy_set wr br 0 (.slice ao zo co)) (fun e => hne0 (by cases e; rfl))
    exact h1.kept (grownBy_set _ br 1 (.map (some bm))) (fun e => hne0 (by cases e; rfl))
   ·exact (HB.out.setCell (p := ⟨br, 0, none⟩) (by rw [HBR.out]; exact Nat.le_refl _) _).setCell (p := ⟨br, 1, none⟩) (by rw [HBR.out]; exact Nat.le_refl _) _
set_option maxRecDepth 100000 in
set_option maxHeartbeats 4000000 in
theorem whole_any (vO fv : Value) (O : List Ob) (F : List ByteArray) (w : World) (h : IsObs w vO O) (hr : RiseO O) (hl : O.length ≤ 1000000) (hz : ∀ y ∈ O, y.r.size ≤ 1000000) (hT : ErrT w) (hf : IsStrs w fv F) (hF : F.length ≤ 800000)
  (U : List Txt) (hU : ∀ t, ReachO O (txts F) t → t ∈ U) (hUl : U.length ≤ 900000) :
  Calls Tryz.prog 29 #[vO, fv] w fun e w' => ∃ b : Bool, e = .returned (.bool b) ∧ (b = true ↔ WholeO O (txts F)) ∧ Below w.heap.size w w' := by
 have C := Lib.hid (Reach_any vO fv O F w h hr hl hz hT hf hF U hU hUl)
 obtain ⟨_, ao, co, hvo, _, _⟩ := h
 obtain ⟨_, af, cf, hvf, _, _⟩ := hf
 obtain ⟨zo, hzo⟩ : ∃ z, z = O.length := ⟨_, rfl⟩
 obtain ⟨zf, hzf⟩ : ∃ z, z = F.length := ⟨_, rfl⟩
 rw [← hzo] at hvo; rw [← hzf] at hvf
 subst hvo hvf
 clear hr hl hz hT hF hU hUl hzo hzf
 go_enter Tryz.func29, Tryz.ntmps29
 go_wp2_with fail
 refine C.out.mono ?_
 rintro e w1 ⟨v, M, c, rfl, ho, _, _, hc, hb⟩
 obtain ⟨_, va, vc, hv, _, _⟩ := ho.strs
 obtain ⟨m, hm⟩ : ∃ m, m = (strsOf M).length := ⟨_, rfl⟩
 rw [← hm] at hv
 subst hv
 have HC := Lib.hid hc; have HB := Lib.hid hb
 clear ho hc hb hm
 go_wp2
 go_ret
 exact ⟨c, rfl, HC.out, HB.out⟩
theorem isKeyC_any (s : ByteArray) (w : World) : Calls Tryz.prog 31 #[.string s] w fun e w' => e = .returned (.bool ((s.size : Int) == 32)) ∧ w = w' := by
 go_enter Tryz.func31, Tryz.ntmps31
 go_wp2
 go_ret
 exact ⟨rfl, rfl⟩
def OfI (O : List Ob) (R : List Txt) (k : Nat) (f : Txt → Nat) : Prop := ∃ A, AllR O (keysR (R.take k)) A ∧ f = ofF O (keysR (R.take k)) A
theorem ofI_zero (O : List Ob) (R : List Txt) : OfI O R 0 (fun _ => 0) := by
 have hno : ∀ t, ¬ ReachO O [] t := fun t h => by
  induction h with
  | start h1 _ => cases h1
  | kid _ _ ih => exact ih
 refine ⟨[], ⟨List.nodup_nil, fun t => ⟨fun h => (by cases h), fun h => absurd (show ReachO O [] t from h) (hno t)⟩⟩, funext fun t => by simp [ofF, keysR, nmO]⟩
theorem take_oneMore {R : List Txt} {k : Nat} (hk : k < R.length) : OneMore (R.take k) (R.take (k + 1)) R[k] := by
 rw [List.take_succ_eq_append_getElem hk]
 exact oneMore_snoc _ _
theorem ofI_more {O : List Ob} {R F : List Txt} {k : Nat} {f : Txt → Nat} (h : OfI O R k f) (hk : k < R.length) (h32 : R[k].length = 32) (hF : F.Nodup) (hf : ∀ t, t ∈ F ↔ FreshO O f R[k] t) : OfI O R (k + 1) (plusF O f R[k] F) := by
 obtain ⟨A, hA, rfl⟩ := h
 have hR := oneMore_keys (take_oneMore hk) h32
 have hB := allR_more hA h32 hR hF hf
 exact ⟨A ++ F, hB, funext fun t => plus_of h32 hA hB hR hF hf t⟩
theorem ofI_skip {O : List Ob} {R : List Txt} {k : Nat} {f : Txt → Nat} (h : OfI O R k f) (hk : k < R.length) (h32 : R[k].length ≠ 32) : OfI O R (k + 1) f := by
 have e : keysR (R.take (k + 1)) = keysR (R.take k) := by
  unfold keysR
  rw [List.take_succ_eq_append_getElem hk, List.filter_append]
  simp [h32]
 unfold OfI
 rw [e]; exact h
theorem ofI_le {O : List Ob} {R U : List Txt} {k : Nat} {f : Txt → Nat} (h : OfI O R k f) (hU : ∀ t, ReachO O R t → t ∈ U) (t : Txt) : f t ≤ R.length + U.length := by
 obtain ⟨A, hA, rfl⟩ := h
 have e1 : (keysR (R.take k)).count t ≤ R.length := Nat.le_trans List.count_le_length (Nat.le_trans (by unfold keysR; exact List.length_filter_le _ _) (by rw [List.length_take]; omega))
 have e2 : nmO O A t ≤ U.length := by
  unfold nmO
  exact Nat.le_trans List.countP_le_length (nodup_len hA.1 fun s hs => hU s (reach_incl (fun u hu => List.mem_of_mem_take hu) (reach_keys.1 ((hA.2 s).1 hs))))
 unfold ofF
 omega
theorem ofI_done {O : List Ob} {R : List Txt} {f : Txt → Nat} (h : OfI O R R.length f) {C : List Ct} (hC : FitC C) (hn : ∀ t, nC C t = f t) : CountsOf O R C := by
 obtain ⟨A, hA, rfl⟩ := h
 rw [List.take_length] at hA hn
 exact ⟨hC, A, allR_keys.1 hA, hn⟩
theorem ofI_fresh {O : List Ob} {R : List Txt} {k : Nat} {f : Txt → Nat} {r : Txt} (hr : r.length = 32) (hm : r ∈ R) {t : Txt} (h : FreshO O f r t) : ReachO O R t :=
 reach_incl (fun u hu => by rw [List.mem_singleton.1 hu]; exact hm) (sub_reach hr h)
def RetOf (O : List Ob) (R : List Txt) (w : World) (e : Ending) (w' : World) : Prop :=
 ∃ v C b, e = .returned (.tuple #[v, .bool b]) ∧ OwnC w.heap.size w' v C ∧ (b = true ↔ WholeO O R) ∧ (b = false → C = []) ∧ (b = true → CountsOf O R C) ∧ Below w.heap.size w w'
set_option maxRecDepth 100000 in
set_option maxHeartbeats 16000000 in
theorem pOf_any (vO fv : Value) (O : List Ob) (F : List ByteArray) (w : World) (h : IsObs w vO O) (hr : RiseO O) (hl : O.length ≤ 1000000) (hz : ∀ y ∈ O, y.r.size ≤ 1000000) (hT : ErrT w) (hf : IsStrs w fv F) (hF : F.length ≤ 800000)
  (U : List Txt) (hU : ∀ t, ReachO O (txts F) t → t ∈ U) (h32 : ∀ t ∈ U, t.length = 32) (hUl : U.length ≤ 800000) :
  Calls Tryz.prog 10 #[vO, fv] w (RetOf O (txts F) w) := by
 have CW := Lib.hid (whole_any vO fv O F w h hr hl hz hT hf hF U hU (by omega))
 have HI := Lib.hid h; have HR := Lib.hid hr; have HL := Lib.hid hl; have HZ := Lib.hid hz; have HT := Lib.hid hT; have HF := Lib.hid hf; have HU := Lib.hid hU; have H32 := Lib.hid h32; have HUL := Lib.hid hUl
 obtain ⟨_, ao, co, hvo, _, _⟩ := h
 obtain ⟨_, af, cf, hvf, _, _⟩ := hf
 obtain ⟨zo, hzo⟩ : ∃ z, z = O.length := ⟨_, rfl⟩
 obtain ⟨zf, hzf⟩ : ∃ z, z = F.length := ⟨_, rfl⟩
 rw [← hzo] at hvo; rw [← hzf] at hvf hF
 have HZF := Lib.hid hzf
 subst hvo hvf
 clear hr hl hz hT hU h32 hUl hzo hzf
 by_cases hw : WholeO O (txts F)
 ·have HW := Lib.hid hw
  go_enter Tryz.func10, Tryz.ntmps10
  go_wp2_with fail
  refine CW.out.mono ?_
  rintro e w1 ⟨b, rfl, hbw, hb1⟩
  have hbt : b = true := hbw.2 hw
  subst hbt
  have HB1 := Lib.hid hb1
  have CT := Lib.hid (newTally_any ao zo co (.slice none 0 0) [] w1 ⟨Nat.zero_le _, none, 0, rfl, ⟨fun _ => ⟨rfl, rfl⟩, Nat.le_refl _⟩, fun h => absurd h (by simp)⟩ ⟨List.Pairwise.nil, fun x h => (by cases h)⟩ U (fun x h => (by cases h)) (fun x h => (by cases h)) HUL.out (fun x h => (by cases h)))
  clear hw hbw hb1
  go_wp2_with fail
  refine CT.out.mono ?_
  rintro e w2 ⟨Bm, rfl, hBm, ht, hb2⟩
  have HB2 := Lib.hid (below_step HB1.out hb2)
  have hBmw : w.heap.size ≤ Bm := Nat.le_trans HB1.out.size hBm
  have HBM := Lib.hid hBmw
  obtain ⟨bx, hbx⟩ : ∃ b, b = w2.heap.size := ⟨_, rfl⟩
  obtain ⟨V, hV⟩ : ∃ V, V = w2.alloc (.cells #[.slice ao zo co, .map (some Bm)] 69) := ⟨_, rfl⟩
  have hbV : Below w2.heap.size w2 V := by rw [hV]; exact (Below.refl _ _).alloc (Nat.le_refl _) _
  have HTV := Lib.hid (ht.stays hbV)
  have HRV : Hid (Row V bx #[.slice ao zo co, .map (some Bm)] 69) := Lib.hid (by rw [hV, hbx]; exact Row.made _ _ _)
  have HBV := Lib.hid (below_step HB2.out hbV)
  have HV := Lib.hid hV; have HBX := Lib.hid hbx
  have HO0 := Lib.hid (ofI_zero O (txts F))
  clear hBm hBmw ht hb2 hbV hV hbx
  go_wp2_with fail
  rw [← HV.out, ← HBX.out]
  go_loopw [17] (fun i wr => ∃ (k : Nat) (f : Txt → Nat), k ≤ zf ∧ i = .int .i64 k ∧ OfI O (txts F) k f ∧ Tal wr Bm U f ∧ Row wr bx #[.slice ao zo co, .map (some Bm)] 69 ∧ Below w.heap.size w wr) (fun i _ => zf - (intOf i).toNat)
  case atStart => exact ⟨0, fun _ => 0, Nat.zero_le _, rfl, HO0.out, HTV.out, HRV.out, HBV.out⟩
  case round =>
   obtain ⟨k, f, hk, rfl, hO, ht, hrow, hB⟩ := hrel
   have HO := Lib.hid hO; have HTT := Lib.hid ht; have HRW := Lib.hid hrow; have HB := Lib.hid hB
   have hne := ht.row_ne hrow
   have HNE := Lib.hid hne
   have r0 : wr.cell? ⟨bx, 0, none⟩ = some (.slice ao zo co) := hrow.cell 0
   have r1 : wr.cell? ⟨bx, 1, none⟩ = some (.map (some Bm)) := hrow.cell 1
   have hrl := hrow.lt
   by_cases hlt : k < zf
   ·have hkl : k < F.length := by have := HZF.out; omega
    have hkt : k < (txts F).length := by rw [txts_len]; exact hkl
    obtain ⟨_, _, _, e, _, hc⟩ := HF.out.stays hB
    rw [← HZF.out] at e
    cases e
    obtain ⟨b, off, rfl, hbl, g⟩ := hc (by omega)
    have c0 := g k hkl
    have htg := txts_get hkl
    have HMO := Lib.hid (fun G h1 h2 h3 => ofI_more (F := G) hO hkt h1 h2 h3)
    have HSK := Lib.hid (fun h1 => ofI_skip hO hkt h1)
    have hxm : (txts F)[k] ∈ txts F := List.getElem_mem hkt
    rw [htg] at HMO HSK hxm
    obtain ⟨x, hx⟩ : ∃ x, x = F[k] := ⟨_, rfl⟩
    rw [← hx] at c0 HMO HSK hxm
    have HXM := Lib.hid hxm
    have hbk : decide ((k : Int) < (zf : Int)) = true := by simpa using (show (k : Int) < zf by omega)
    have hsz := Lib.size_eq x
    clear hc g htg hx hkl hkt hO ht hrow hB hne hxm
    by_cases hx32 : x.data.toList.length = 32
    ·have q : ((x.size : Int) == 32) = true := by rw [hsz, hx32]; rfl
     have HX32 := Lib.hid hx32
     have CM := Lib.hid (more_any ao zo co Bm O x U f wr (HI.out.stays HB.out) HR.out HL.out HZ.out (HT.out.stays HB.out) HTT.out hx32 (HU.out _ (.start HXM.out hx32)) (fun j hj u hu => HU.out u (.kid (ofI_fresh (k := k) hx32 HXM.out hj) hu)) HUL.out (fun t => by
      have := ofI_le HO.out HU.out t
      rw [txts_len, ← HZF.out] at this
      have := HUL.out
      omega))
     have CI := Lib.hid (isKeyC_any x wr)
     rw [q] at CI
     clear hsz hx32 q
     go_wp2_with fail
     refine CI.out.mono ?_
     rintro e w3 ⟨rfl, rfl⟩
     go_wp2_with fail
     refine CM.out.mono ?_
     rintro e w4 ⟨rfl, hg, G, hG1, hG2, hG3⟩
     have HG := Lib.hid hg; have HO4 := Lib.hid (HMO.out G HX32.out hG1 hG2); have HT4 := Lib.hid hG3
     clear hg hG1 hG2 hG3 r0 r1 c0
     go_wp2
     go_roundw
     case rel => exact ⟨k + 1, _, by omega, by go_num, HO4.out, HT4.out, (HG.out.block bx HRW.out.lt (fun e => HNE.out (by cases e; rfl))).trans HRW.out, HB.out.grown HG.out HB.out.size (fun j hj => by cases hj; exact HBM.out)⟩
     case measure => simp [intOf]; omega
    ·have q : ((x.size : Int) == 32) = false := beq_eq_false_iff_ne.2 (by rw [hsz]; omega)
     have CI := Lib.hid (isKeyC_any x wr)
     rw [q] at CI
     have HO4 := Lib.hid (HSK.out hx32)
     clear hsz hx32 q
     go_wp2_with fail
     refine CI.out.mono ?_
     rintro e w3 ⟨rfl, rfl⟩
     clear r0 r1 c0
     go_wp2
     go_roundw
     case rel => exact ⟨k + 1, f, by omega, by go_num, HO4.out, HTT.out, HRW.out, HB.out⟩
     case measure => simp [intOf]; omega
   ·have hkf : k = (txts F).length := by rw [txts_len]; have := HZF.out; omega
    rw [hkf] at hO
    have HOD := Lib.hid hO
    have hbk : decide ((k : Int) < (zf : Int)) = false := by simp; omega
    have CC := Lib.hid (counts_any ao zo co Bm U f wr ht HUL.out H32.out)
    clear hkf hO ht hrow hB hne
    go_wp2_with fail
    refine CC.out.mono ?_
    rintro e w5 ⟨v, C, rfl, ho, hC, hn, hb5⟩
    have HOC := Lib.hid (ho.low HB.out.size); have HCO := Lib.hid (ofI_done HOD.out hC hn); have HB5 := Lib.hid (below_step HB.out hb5)
    obtain ⟨_, va, vc, hv, _, _⟩ := ho.is
    subst hv
    clear ho hC hn hb5
    go_wp2
    go_ret2
    exact ⟨_, C, true, rfl, HOC.out, ⟨fun _ => HW.out, fun _ => rfl⟩, (fun h => (by cases h)), fun _ => HCO.out, HB5.out⟩
 ·have HW := Lib.hid hw
  go_enter Tryz.func10, Tryz.ntmps10
  go_wp2_with fail
  refine CW.out.mono ?_
  rintro e w1 ⟨b, rfl, hbw, hb1⟩
  have hbt : b = false := by
   cases b with
   | false => rfl
   | true => exact absurd (hbw.1 rfl) hw
  subst hbt
  have HB1 := Lib.hid hb1
  clear hw hbw hb1
  go_wp2
  go_ret2
  exact ⟨_, [], false, rfl, cts_own_nil _ _, ⟨(fun h => (by cases h)), fun h => absurd h HW.out⟩, fun _ => rfl, (fun h => (by cases h)), HB1.out⟩
theorem map_keys {C : List Ct} (h : FitC C) (h32 : ∀ x ∈ C, x.t.length = 32) (t : Txt) (ht : nF C t ≠ 0) : t.length = 32 := by
 obtain ⟨x, hx, rfl⟩ := List.mem_map.1 ((nF_mem h t).1 ht)
 exact h32 x hx
set_option maxRecDepth 100000 in
set_option maxHeartbeats 16000000 in
theorem pPlus_any (vc vO : Value) (C : List Ct) (O : List Ob) (k : ByteArray) (w : World) (h : IsObs w vO O) (hr : RiseO O) (hl : O.length ≤ 1000000) (hz : ∀ y ∈ O, y.r.size ≤ 1000000) (hT : ErrT w) (hc : IsCts w vc C) (hC : FitC C) (hn : ∀ x ∈ C, x.n ≤ 100000000000000)
  (U : List Txt) (hCU : ∀ x ∈ C, x.t ∈ U) (hU : ∀ t, ReachO O [k.data.toList] t → t ∈ U) (h32 : ∀ t ∈ U, t.length = 32) (hUl : U.length ≤ 800000) :
  Calls Tryz.prog 17 #[vc, vO, .string k] w fun e w' => ∃ v' C' ev, e = .returned (.tuple #[v', .int .i64 ev]) ∧ OwnC w.heap.size w' v' C' ∧ PlusRes O C k.data.toList C' ev ∧ Below w.heap.size w w' := by
 have hCl : C.length ≤ 800000 := by
  have := nodup_len (rises_nodup (fitC_rises hC)) (B := U) (fun t ht => by obtain ⟨x, hx, rfl⟩ := List.mem_map.1 ht; exact hCU x hx)
  rw [List.length_map] at this; omega
 have CI := Lib.hid (isKeyC_any k w)
 have hsz := Lib.size_eq k
 obtain ⟨_, ao, co, hvo, _, _⟩ := id h
 obtain ⟨_, ac, cc, hvc, _, _⟩ := id hc
 obtain ⟨zo, hzo⟩ : ∃ z, z = O.length := ⟨_, rfl⟩
 obtain ⟨zc, hzc⟩ : ∃ z, z = C.length := ⟨_, rfl⟩
 rw [← hzo] at hvo; rw [← hzc] at hvc
 subst hvo hvc
 have HI := Lib.hid h; have HR := Lib.hid hr; have HL := Lib.hid hl; have HZ := Lib.hid hz; have HT := Lib.hid hT; have HCI := Lib.hid hc; have HC := Lib.hid hC; have HN := Lib.hid hn; have HCU := Lib.hid hCU; have HU := Lib.hid hU; have H32 := Lib.hid h32; have HUL := Lib.hid hUl; have HCL := Lib.hid hCl
 clear h hr hl hz hT hc hC hn hCU hU h32 hUl hCl hzo hzc
 by_cases hk : k.data.toList.length = 32
 ·have q : ((k.size : Int) == 32) = true := by rw [hsz, hk]; rfl
  rw [q] at CI
  have HK := Lib.hid hk
  have hb0 : Below w.heap.size w (w.alloc (.cells #[.string k] 9)) := (Below.refl _ _).alloc (Nat.le_refl _) _
  have CW := Lib.hid (whole_any (.slice ao zo co) (.slice (some ⟨w.heap.size, 0, none⟩) 1 1) O [k] (w.alloc (.cells #[.string k] 9)) (HI.out.stays hb0) HR.out HL.out HZ.out (HT.out.stays hb0) (by
   have := (own_one w k).strs; simpa [strsOf] using this) (by simp) U (by simpa [txts] using HU.out) (by have := HUL.out; omega))
  rw [show txts [k] = [k.data.toList] from rfl] at CW
  have HB0 := Lib.hid hb0
  clear hsz q hk hb0
  by_cases hw : WholeO O [k.data.toList]
  ·have HW := Lib.hid hw
   go_enter Tryz.func17, Tryz.ntmps17
   go_wp2_with fail
   refine CI.out.mono ?_
   rintro e w1 ⟨rfl, rfl⟩
   go_wp2_with fail
   refine CW.out.mono ?_
   rintro e w1 ⟨b, rfl, hbw, hb1⟩
   have hbt : b = true := hbw.2 hw
   subst hbt
   have HB1 := Lib.hid (below_step HB0.out hb1)
   have CT := Lib.hid (newTally_any ao zo co (.slice ac zc cc) C w1 (HCI.out.stays HB1.out) HC.out U HCU.out (fun x hx => H32.out _ (HCU.out x hx)) HUL.out (fun x hx => Int.le_trans (HN.out x hx) (by decide)))
   clear hw hbw hb1
   go_wp2_with fail
   refine CT.out.mono ?_
   rintro e w2 ⟨Bm, rfl, hBm, ht, hb2⟩
   have HB2 := Lib.hid (below_step HB1.out hb2)
   have HBM := Lib.hid (Nat.le_trans HB1.out.size hBm)
   have hbV : Below w2.heap.size w2 (w2.alloc (.cells #[.slice ao zo co, .map (some Bm)] 69)) := (Below.refl _ _).alloc (Nat.le_refl _) _
   have HBV := Lib.hid (below_step HB2.out hbV)
   have HRV : Hid (Row (w2.alloc (.cells #[.slice ao zo co, .map (some Bm)] 69)) w2.heap.size #[.slice ao zo co, .map (some Bm)] 69) := Lib.hid (Row.made _ _ _)
   have htV := ht.stays hbV
   have HNE := Lib.hid (htV.row_ne HRV.out)
   have CM := Lib.hid (more_any ao zo co Bm O k U (nF C) _ (HI.out.stays HBV.out) HR.out HL.out HZ.out (HT.out.stays HBV.out) htV HK.out (HU.out _ (.start (List.mem_singleton.2 rfl) HK.out)) (fun j hj u hu => HU.out u (.kid (sub_reach HK.out hj) hu)) HUL.out (fun t => by
    by_cases h0 : nF C t = 0
    ·omega
    ·obtain ⟨x, hx, rfl⟩ := List.mem_map.1 ((nF_mem HC.out t).1 h0)
     have := HN.out x hx
     unfold nF
     rw [nC_mem HC.out hx]; omega))
   clear hBm ht hb2 hbV htV
   go_wp2_with fail
   refine CM.out.mono ?_
   rintro e w4 ⟨rfl, hg, G, hG1, hG2, hG3⟩
   have hr4 : Row w4 w2.heap.size #[.slice ao zo co, .map (some Bm)] 69 := (hg.block _ HRV.out.lt (fun e => HNE.out (by cases e; rfl))).trans HRV.out
   have r0 : w4.cell? ⟨w2.heap.size, 0, none⟩ = some (.slice ao zo co) := hr4.cell 0
   have r1 : w4.cell? ⟨w2.heap.size, 1, none⟩ = some (.map (some Bm)) := hr4.cell 1
   have hrl := hr4.lt
   have HB4 := Lib.hid (HBV.out.grown hg HBV.out.size (fun j hj => by cases hj; exact HBM.out))
   have CC := Lib.hid (counts_any ao zo co Bm U _ w4 hG3 HUL.out H32.out)
   have HG := Lib.hid (show G.Nodup ∧ ∀ s, s ∈ G ↔ FreshO O (nF C) k.data.toList s from ⟨hG1, hG2⟩)
   clear hg hG1 hG2 hG3 hr4
   go_wp2_with fail
   refine CC.out.mono ?_
   rintro e w5 ⟨v, C', rfl, ho, hC, hn, hb5⟩
   have HOC := Lib.hid (ho.low HB4.out.size); have HB5 := Lib.hid (below_step HB4.out hb5)
   have HPR : Hid (PlusRes O C k.data.toList C' 0) := Lib.hid (.inr ⟨rfl, ⟨HK.out, HW.out⟩, hC, G, HG.out.1, HG.out.2, hn⟩)
   obtain ⟨_, va, vc, hv, _, _⟩ := ho.is
   subst hv
   clear ho hC hn hb5 r0 r1
   go_wp2
   go_ret2
   exact ⟨_, C', 0, rfl, HOC.out, HPR.out, HB5.out⟩
  ·have HW := Lib.hid hw
   go_enter Tryz.func17, Tryz.ntmps17
   go_wp2_with fail
   refine CI.out.mono ?_
   rintro e w1 ⟨rfl, rfl⟩
   go_wp2_with fail
   refine CW.out.mono ?_
   rintro e w1 ⟨b, rfl, hbw, hb1⟩
   have hbt : b = false := by
    cases b with
    | false => rfl
    | true => exact absurd (hbw.1 rfl) hw
   subst hbt
   have HB1 := Lib.hid (below_step HB0.out hb1)
   have CL := Lib.hid (cClone_any (.slice ac zc cc) C w1 (HCI.out.stays HB1.out) (by have := HCL.out; omega))
   clear hw hbw hb1
   go_wp2_with fail
   refine CL.out.mono ?_
   rintro e w2 ⟨v, rfl, ho, hb2⟩
   have HO := Lib.hid (ho.low HB1.out.size); have HB2 := Lib.hid (below_step HB1.out hb2)
   obtain ⟨_, va, vc, hv, _, _⟩ := ho.is
   subst hv
   clear ho hb2
   go_wp2
   go_ret2
   exact ⟨_, C, 5, rfl, HO.out, .inl ⟨rfl, rfl, fun h => HW.out h.2⟩, HB2.out⟩
 ·have q : ((k.size : Int) == 32) = false := beq_eq_false_iff_ne.2 (by rw [hsz]; omega)
  rw [q] at CI
  have HK := Lib.hid hk
  have CL := Lib.hid (cClone_any (.slice ac zc cc) C w HCI.out (by have := HCL.out; omega))
  clear hsz q hk
  go_enter Tryz.func17, Tryz.ntmps17
  go_wp2_with fail
  refine CI.out.mono ?_
  rintro e w1 ⟨rfl, rfl⟩
  go_wp2_with fail
  refine CL.out.mono ?_
  rintro e w2 ⟨v, rfl, ho, hb2⟩
  have HO := Lib.hid ho; have HB2 := Lib.hid hb2
  obtain ⟨_, va, vc, hv, _, _⟩ := ho.is
  subst hv
  clear ho hb2
  go_wp2
  go_ret2
  exact ⟨_, C, 5, rfl, HO.out, .inl ⟨rfl, rfl, fun h => HK.out h.1⟩, HB2.out⟩
set_option maxRecDepth 100000 in
set_option maxHeartbeats 16000000 in
theorem pMinus_any (vc vO : Value) (C : List Ct) (O : List Ob) (k : ByteArray) (w : World) (h : IsObs w vO O) (hr : RiseO O) (hl : O.length ≤ 1000000) (hz : ∀ y ∈ O, y.r.size ≤ 1000000) (hT : ErrT w) (hc : IsCts w vc C) (hC : FitC C) (hn : ∀ x ∈ C, x.n ≤ 1000000000000000)
  (h32 : ∀ x ∈ C, x.t.length = 32) (hCl : C.length ≤ 800000) :
  Calls Tryz.prog 19 #[vc, vO, .string k] w fun e w' => ∃ v' C' ev, e = .returned (.tuple #[v', .int .i64 ev]) ∧ OwnC w.heap.size w' v' C' ∧ MinusRes O C k.data.toList C' ev ∧ Below w.heap.size w w' := by
 have CN := Lib.hid (pN_any vc C k w hc)
 obtain ⟨_, ao, co, hvo, _, _⟩ := id h
 obtain ⟨_, ac, cc, hvc, _, _⟩ := id hc
 obtain ⟨zo, hzo⟩ : ∃ z, z = O.length := ⟨_, rfl⟩
 obtain ⟨zc, hzc⟩ : ∃ z, z = C.length := ⟨_, rfl⟩
 rw [← hzo] at hvo; rw [← hzc] at hvc
 subst hvo hvc
 have HI := Lib.hid h; have HR := Lib.hid hr; have HL := Lib.hid hl; have HZ := Lib.hid hz; have HT := Lib.hid hT; have HCI := Lib.hid hc; have HC := Lib.hid hC; have HN := Lib.hid hn; have H32 := Lib.hid h32; have HCL := Lib.hid hCl
 clear h hr hl hz hT hc hC hn h32 hCl hzo hzc
 by_cases hk : nC C k.data.toList = 0
 ·have HK := Lib.hid hk
  rw [hk] at CN
  clear hk
  go_enter Tryz.func19, Tryz.ntmps19
  go_wp2_with fail
  refine CN.out.mono ?_
  rintro e w1 ⟨rfl, hb1⟩
  have HB1 := Lib.hid hb1
  have CL := Lib.hid (cClone_any (.slice ac zc cc) C w1 (HCI.out.stays HB1.out) (by have := HCL.out; omega))
  clear hb1
  go_wp2_with fail
  refine CL.out.mono ?_
  rintro e w2 ⟨v, rfl, ho, hb2⟩
  have HO := Lib.hid (ho.low HB1.out.size); have HB2 := Lib.hid (below_step HB1.out hb2)
  obtain ⟨_, va, vc, hv, _, _⟩ := ho.is
  subst hv
  clear ho hb2
  go_wp2
  go_ret2
  exact ⟨_, C, 5, rfl, HO.out, .inl ⟨rfl, rfl, HK.out⟩, HB2.out⟩
 ·have HK := Lib.hid hk
  have q : (nC C k.data.toList == 0) = false := beq_eq_false_iff_ne.2 hk
  have hk32 : k.data.toList.length = 32 := map_keys HC.out H32.out _ (by unfold nF; have := (nC_pos HC.out (t := k.data.toList)).1; omega)
  have HK32 := Lib.hid hk32
  obtain ⟨n, hn⟩ : ∃ n, n = nC C k.data.toList := ⟨_, rfl⟩
  rw [← hn] at q CN
  clear hk hk32 hn
  go_enter Tryz.func19, Tryz.ntmps19
  go_wp2_with fail
  refine CN.out.mono ?_
  rintro e w1 ⟨rfl, hb1⟩
  have HB1 := Lib.hid hb1
  have CT := Lib.hid (newTally_any ao zo co (.slice ac zc cc) C w1 (HCI.out.stays HB1.out) HC.out (C.map Ct.t) (fun x hx => List.mem_map.2 ⟨x, hx, rfl⟩) H32.out (by rw [List.length_map]; exact HCL.out) HN.out)
  clear hb1
  go_wp2_with fail
  refine CT.out.mono ?_
  rintro e w2 ⟨Bm, rfl, hBm, ht, hb2⟩
  have HB2 := Lib.hid (below_step HB1.out hb2)
  have HBM := Lib.hid (Nat.le_trans HB1.out.size hBm)
  have hbV : Below w2.heap.size w2 (w2.alloc (.cells #[.slice ao zo co, .map (some Bm)] 69)) := (Below.refl _ _).alloc (Nat.le_refl _) _
  have HBV := Lib.hid (below_step HB2.out hbV)
  have HRV : Hid (Row (w2.alloc (.cells #[.slice ao zo co, .map (some Bm)] 69)) w2.heap.size #[.slice ao zo co, .map (some Bm)] 69) := Lib.hid (Row.made _ _ _)
  have htV := ht.stays hbV
  have HNE := Lib.hid (htV.row_ne HRV.out)
  have CM := Lib.hid (less_any ao zo co Bm O k (C.map Ct.t) (nF C) _ (HI.out.stays HBV.out) HR.out HL.out HZ.out (HT.out.stays HBV.out) htV HK32.out (fun t h0 => (nF_mem HC.out t).1 h0) (by rw [List.length_map]; exact HCL.out) (fun t => by
   by_cases h0 : nF C t = 0
   ·omega
   ·obtain ⟨x, hx, rfl⟩ := List.mem_map.1 ((nF_mem HC.out t).1 h0)
    have := HN.out x hx
    unfold nF
    rw [nC_mem HC.out hx]; omega))
  clear hBm ht hb2 hbV htV q
  go_wp2_with fail
  refine CM.out.mono ?_
  rintro e w4 ⟨rfl, hg, G, hG1, hG3⟩
  have hr4 : Row w4 w2.heap.size #[.slice ao zo co, .map (some Bm)] 69 := (hg.block _ HRV.out.lt (fun e => HNE.out (by cases e; rfl))).trans HRV.out
  have r0 : w4.cell? ⟨w2.heap.size, 0, none⟩ = some (.slice ao zo co) := hr4.cell 0
  have r1 : w4.cell? ⟨w2.heap.size, 1, none⟩ = some (.map (some Bm)) := hr4.cell 1
  have hrl := hr4.lt
  have HB4 := Lib.hid (HBV.out.grown hg HBV.out.size (fun j hj => by cases hj; exact HBM.out))
  have CC := Lib.hid (counts_any ao zo co Bm (C.map Ct.t) _ w4 hG3 (by rw [List.length_map]; exact HCL.out) (fun t ht => by obtain ⟨x, hx, rfl⟩ := List.mem_map.1 ht; exact H32.out x hx))
  have HG := Lib.hid hG1
  clear hg hG1 hG3 hr4
  go_wp2_with fail
  refine CC.out.mono ?_
  rintro e w5 ⟨v, C', rfl, ho, hC, hn, hb5⟩
  have HOC := Lib.hid (ho.low HB4.out.size); have HB5 := Lib.hid (below_step HB4.out hb5)
  have HPR : Hid (MinusRes O C k.data.toList C' 0) := Lib.hid (.inr ⟨rfl, HK.out, hC, G, HG.out, hn⟩)
  obtain ⟨_, va, vc, hv, _, _⟩ := ho.is
  subst hv
  clear ho hC hn hb5 r0 r1
  go_wp2
  go_ret2
  exact ⟨_, C', 0, rfl, HOC.out, HPR.out, HB5.out⟩
end Go.Proofs.YtokknppjeckppaaGreatDoor

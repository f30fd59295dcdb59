/-
  Texts put together: contracts and laws that this seat's proofs share.
-/
import Derived.Test.YtjpjpmkadoaipaaGreatDoorQb4
import Derived.Maps.OwnSet
import Derived.Maps.AppendAt
import Derived.StringKeys
import Derived.RangeFuncFrom
import Derived.RangeFuncBox
import Derived.RegionTactic
import Derived.BigRegionIn
import Derived.Sort.CutIn
import Derived.OwnWalkIn
import Derived.Test.YtjpjpmkadoaipaaGreatDoorQb2
import Derived.Test.YtjpjpmkadoaipaaGreatDoorQb0
import Derived.WalkKit
import Derived.LoopTactic
import Derived.Deep.QuietTactic
import Derived.BigQuiet
import Derived.Outline
import Derived.Laws.Cover1
import Derived.OrdersIn
import Derived.TacticsIn
import Derived.RangeFuncCalls
import Derived.Test.YtjpjpmkadoaipaaGreatDoorQb1
import Derived.Lib.QuietBelow
import Derived.Test.YtjpjpmkadoaipaaGreatDoorQb3
set_option linter.unusedVariables false
namespace Go.Proofs.YtjpjpmkadoaipaaGreatDoor
open Go Go.RowKit
attribute [local go_sem] Oper.semAt_some
structure Wk (B Bw : Nat) (w w' : World) : Prop where
 os : w'.os = w.os
 tape : w'.tape = w.tape
 output : w'.output = w.output
 size : w.heap.size ≤ w'.heap.size
 block : ∀ b, b < w.heap.size → b ≠ Bw → (b < B ∨ ∀ xs, ¬ Row w b xs 52) → w'.heap[b]? = w.heap[b]?
theorem Wk.refl (B Bw : Nat) (w : World) : Wk B Bw w w := ⟨rfl, rfl, rfl, Nat.le_refl _, fun _ _ _ _ => rfl⟩
theorem Wk.of_wf {B Bw : Nat} {w w' : World} (h : Wf w.heap.size Bw w w') : Wk B Bw w w' := ⟨h.os, h.tape, h.output, h.size, fun b hb hn _ => h.block b hb hn⟩
theorem Wk.of_below {B Bw : Nat} {w w' : World} (h : Below w.heap.size w w') : Wk B Bw w w' := ⟨h.os, h.tape, h.output, h.size, fun b hb _ _ => h.block b hb⟩
theorem Wk.trans {B Bw : Nat} {a b c : World} (h : Wk B Bw a b) (k : Wk B Bw b c) : Wk B Bw a c :=
 ⟨k.os.trans h.os, k.tape.trans h.tape, k.output.trans h.output, Nat.le_trans h.size k.size, fun i hi hn hp => by
  have e := h.block i hi hn hp
  refine (k.block i (Nat.lt_of_lt_of_le hi h.size) hn ?_).trans e
  rcases hp with hp | hp
  ·exact .inl hp
  ·exact .inr fun xs hr => hp xs (e.symm.trans (show b.heap[i]? = _ from hr))⟩
theorem Wk.step {B Bw : Nat} {a b c : World} (h : Wk B Bw a b) (k : Below b.heap.size b c) : Wk B Bw a c := h.trans (Wk.of_below k)
theorem Wk.row {B Bw b : Nat} {w w' : World} {xs : Array Value} {T : TypeId} (h : Wk B Bw w w') (hr : Row w b xs T) (hT : T ≠ 52) (hn : b ≠ Bw) : Row w' b xs T :=
 (h.block b hr.lt hn (.inr fun ys hy => by have e := (show w.heap[b]? = _ from hr).symm.trans (show w.heap[b]? = _ from hy); cases e; exact hT rfl)).trans hr
theorem Wk.set {B Bw i : Nat} {w : World} (u : Value) : Wk B Bw w (w.setCell ⟨Bw, i, none⟩ u) :=
 ⟨rfl, rfl, rfl, by simp [World.setCell], fun b hb hn _ => heap_setCell_other _ _ _ _ hn⟩
theorem Wk.turn {B Bw : Nat} {w w' : World} {r : Option Nat} (hg : w.grownBy w' r) (hr : ∀ g, r = some g → B ≤ g ∧ ∃ xs, Row w g xs 52) : Wk B Bw w w' :=
 ⟨hg.os, hg.tape, hg.output, hg.size, fun b hb hn hp => hg.block b hb (fun e => by
  obtain ⟨h1, xs, h2⟩ := hr b e.symm
  rcases hp with hp | hp
  ·omega
  ·exact hp xs h2)⟩
theorem Wk.below {B Bw : Nat} {a w w' : World} (h : Wk B Bw w w') (hb : Below B a w) (hs : B ≤ w.heap.size) (hB : B ≤ Bw) : Below B a w' :=
 hb.trans ⟨h.os, h.tape, h.output, h.size, fun k hk => h.block k (Nat.lt_of_lt_of_le hk hs) (by omega) (.inl hk)⟩
theorem Wk.ents {B Bw C : Nat} {w w' : World} {v : Value} {L : List En} (h : Wk B Bw w w') (ho : OwnE C w v L) (hn : v.ownBlock ≠ some Bw) : OwnE C w' v L := by
 refine ⟨ho.1, ?_⟩
 rcases ho.2 with h2 | ⟨g, cap, cur, h3, h4, h5, h6⟩
 ·exact .inl h2
 ·exact .inr ⟨g, cap, cur, h3, h4, h.row (xs := cur) (T := 89) h5 (by decide) (fun e => hn (by rw [h3, e]; rfl)), h6⟩
theorem OwnI.rowI {B : Nat} {w : World} {v : Value} {L : List It} (h : OwnI B w v L) {g : Nat} (hg : v.ownBlock = some g) : B ≤ g ∧ ∃ xs, Row w g xs 52 := by
 rcases h.2 with ⟨rfl, _⟩ | ⟨g', cap, cur, rfl, h4, h5, _⟩
 ·cases hg
 ·cases hg; exact ⟨h4, _, h5⟩
def OneIt (w : World) (v : Value) (x : It) : Prop := ∃ A, v = .slice (some ⟨A, 0, none⟩) 1 1 ∧ w.heap[A]? = some (.cells #[.string x.p, .bool x.d, .bool x.e, .string x.c] 52 (0, 0))
theorem OneIt.stays {w w' : World} {v : Value} {x : It} (h : OneIt w v x) (hb : Below w.heap.size w w') : OneIt w' v x := by
 obtain ⟨A, h1, h2⟩ := h
 exact ⟨A, h1, (hb.block A (Array.getElem?_eq_some_iff.1 h2).1).trans h2⟩
theorem oneIt_new (w : World) (x : It) : OneIt (w.alloc (.cells #[.string x.p, .bool x.d, .bool x.e, .string x.c] 52)) (.slice (some ⟨w.heap.size, 0, none⟩) 1 1) x := ⟨_, rfl, heap_alloc_new w _⟩
theorem wp_build_it {o : Oper} {a : Act} {K : Act → World → Prop} {Q : Exit → Act → World → Prop} {w : World} (p : Nat) (ho : o.op = .buildSlice 24 1 #[(0, .tmp p)]) {x : It}
  (hx : slot a p = .agg #[.string x.p, .bool x.d, .bool x.e, .string x.c]) (hk : K (a.put o.dst (.slice (some ⟨w.heap.size, 0, none⟩) 1 1)) (w.alloc (.cells #[.string x.p, .bool x.d, .bool x.e, .string x.c] 52))) : o.wp Tryz.prog a w K Q := by
 refine wp_value (v := .slice (some ⟨w.heap.size, 0, none⟩) 1 1) (w' := w.alloc (.cells #[.string x.p, .bool x.d, .bool x.e, .string x.c] 52)) ?_ hk
 have f := slot_at hx
 unfold execOp
 rw [ho]
 go_simp
theorem wp_append_one_it {o : Oper} {a : Act} {B : Nat} {w : World} {K : Act → World → Prop} {Q : Exit → Act → World → Prop} (s x : Nat)
  (ho : o.op = .call { callee := .builtin .append, args := #[.tmp s, .tmp x], argTypes := #[24, 24] })
  {v : Value} {M : List It} {y : It} (hown : OwnI B w v M) (hBs : B ≤ w.heap.size) (hs : a.eval (.tmp s) = v) (hx : OneIt w (slot a x) y) (hlen : M.length ≤ 1000000)
  (h : ∀ v' w', OwnI B w' v' (M ++ [y]) → w.grownBy w' v.ownBlock → K (a.put o.dst v') w') : o.wp Tryz.prog a w K Q := by
 obtain ⟨i0, hi, hz0, hz1, hz2⟩ := info_parts infoItem
 obtain ⟨A, hx1, hx2⟩ := hx
 have hr : Row w A #[.string y.p, .bool y.d, .bool y.e, .string y.c] 52 := hx2
 refine wp_append_own w (.tmp s) (.tmp x) 24 ho B 52 i0 (itV zeroIt) 4 40 Tryz.underlying24 hi hz0 hz1 hz2 rfl (by decide) v M.length (itCells M) hs hown ⟨A, 0, none⟩ 1 1 (itC y) (slotE hx1) rfl ?_ ?_ ?_ ?_ hBs ?_
 ·intro j u hj
  have := hr.cell j
  rw [add_plain', Nat.zero_add, this]
  simpa using hj
 ·intro u hu; simp at hu; rcases hu with rfl | rfl | rfl | rfl <;> rfl
 ·unfold maxLen; omega
 ·omega
 ·intro v' w' hown' hg _
  refine h v' w' ?_ hg
  unfold OwnI
  rw [List.length_append, itCells_app]
  have : itCells [y] = itC y := List.append_nil _
  rw [this]; exact hown'
theorem wpList_append_it {ops : Array Oper} {rest : List Oper} {o : Oper} {a : Act} {B z : Nat} {w0 : World} {Q : Exit → Act → World → Prop} (hgd : o.guard = none) (s x : Operand)
  (ho : o.op = .call { callee := .builtin .append, args := #[s, x], argTypes := #[24, 24] })
  {v : Value} {M : List It} {y : It} (hown : OwnI B w0 v M) (hBs : B ≤ w0.heap.size) (hz : z = w0.heap.size) (hs : a.eval s = v)
  (hx : a.eval x = .slice (some ⟨z, 0, none⟩) 1 1) (hlen : M.length ≤ 1000000)
  (h : ∀ v' w', OwnI B w' v' (M ++ [y]) → w0.grownBy w' v.ownBlock → wpList Tryz.prog ops Q rest (a.put o.dst v') w') :
  wpList Tryz.prog ops Q (o :: rest) a (w0.alloc (.cells #[.string y.p, .bool y.d, .bool y.e, .string y.c] 52)) := by
 subst hz
 obtain ⟨i0, hi, hz0, hz1, hz2⟩ := info_parts infoItem
 refine wpList_append_own _ hgd s x 24 ho B 52 i0 (itV zeroIt) 4 40 Tryz.underlying24 hi hz0 hz1 hz2 rfl (by decide) v M.length (itCells M) hs (World.ownsRow.alloc hown _) ⟨w0.heap.size, 0, none⟩ 1 1 (itC y) hx rfl cell_four ?_ ?_ ?_ ?_ ?_
 ·intro u hu; simp at hu; rcases hu with rfl | rfl | rfl | rfl <;> rfl
 ·unfold maxLen; omega
 ·omega
 ·simp; omega
 ·intro v' w' hown' hg _
  refine h v' w' ?_ (grown_after (grownBy_alloc w0 _) hg)
  unfold OwnI
  rw [List.length_append, itCells_app]
  have : itCells [y] = itC y := List.append_nil _
  rw [this]; exact hown'
theorem own_set {B Bw i : Nat} {w : World} {v : Value} {M : List It} {xs : Array Value} (h : OwnI B w v M) (hr : Row w Bw xs 57) (u : Value) : OwnI B (w.setCell ⟨Bw, i, none⟩ u) v M :=
 (Wf.set (N := w.heap.size) u).owns h (fun g hg => (World.ownsRow.lt h g hg).2) (owns_apart h hr (by decide))
section
variable {W0 : World} {Bw : Nat} {vO : Value} {O : List Ob} {w w' : World} {M : List It} {sz : Nat} {vI v' : Value}
theorem Wlk.more (h : Wlk W0 Bw vO O w M sz vI) (hg : w.grownBy w' vI.ownBlock) {y : It} (ho : OwnI W0.heap.size w' v' (M ++ [y])) : Wlk W0 Bw vO O (w'.setCell ⟨Bw, 1, none⟩ v') (M ++ [y]) sz v' ∧ Wk W0.heap.size Bw w (w'.setCell ⟨Bw, 1, none⟩ v') ∧ Row w' Bw #[vO, vI, .int .i64 sz] 57 := by
 have hr : Row w' Bw #[vO, vI, .int .i64 sz] 57 := (hg.block Bw h.row.lt (fun e => h.apart e.symm)).trans h.row
 refine ⟨⟨hr.set 1 v', h.objs, own_set ho hr v', h.from_, (h.below.grown hg h.below.size (fun g e => (h.items.rowI e).1)).setCell (p := ⟨Bw, 1, none⟩) h.from_ _, h.err⟩, (Wk.turn hg (fun g e => h.items.rowI e)).trans (Wk.set _), hr⟩
end
structure EntG (W0 : World) (Bw : Nat) (wz w : World) : Prop where
 wk : Wk W0.heap.size Bw wz w
 below : Below W0.heap.size W0 w
theorem EntG.on {W0 : World} {Bw : Nat} {wz w w' : World} (h : EntG W0 Bw wz w) (hb : Below w.heap.size w w') : EntG W0 Bw wz w' := ⟨h.wk.step hb, below_step h.below hb⟩
theorem EntG.drew {W0 : World} {Bw : Nat} {vO : Value} {O : List Ob} {w : World} {M : List It} {sz : Nat} {vI : Value} (h : Wlk W0 Bw vO O w M sz vI) : EntG W0 Bw w w.drew := ⟨Wk.of_below ((Below.refl _ _).drew), h.below.drew⟩
theorem EntG.grown {W0 : World} {Bw : Nat} {vO : Value} {O : List Ob} {wz w w' : World} {M : List It} {sz : Nat} {vI : Value} (h : EntG W0 Bw wz w) (hw : Wlk W0 Bw vO O w M sz vI) (hg : w.grownBy w' vI.ownBlock) : EntG W0 Bw wz w' :=
 ⟨h.wk.trans (Wk.turn hg (fun g e => hw.items.rowI e)), h.below.grown hg h.below.size (fun g e => (hw.items.rowI e).1)⟩
theorem EntG.set {W0 : World} {Bw i : Nat} {wz w : World} (h : EntG W0 Bw wz w) (hB : W0.heap.size ≤ Bw) (u : Value) : EntG W0 Bw wz (w.setCell ⟨Bw, i, none⟩ u) :=
 ⟨h.wk.trans (Wk.set _), h.below.setCell (p := ⟨Bw, i, none⟩) hB _⟩
def entR (W0 : World) (Bw : Nat) (vI : Value) (i : Nat) (w w' : World) : Prop :=
 W0.heap.size ≤ Bw ∧ if i = 11 then w.grownBy w' vI.ownBlock ∧ ∀ g, vI.ownBlock = some g → W0.heap.size ≤ g ∧ g ≠ Bw ∧ ∃ xs, Row w g xs 52
 else ∃ u xs, Row w Bw xs 57 ∧ w' = w.setCell ⟨Bw, 1, none⟩ u
theorem entR_app {W0 : World} {Bw : Nat} {vI : Value} {w w' : World} (h : entR W0 Bw vI 11 w w') : w.grownBy w' vI.ownBlock ∧ ∀ g, vI.ownBlock = some g → W0.heap.size ≤ g ∧ g ≠ Bw ∧ ∃ xs, Row w g xs 52 := by have h := h.2; rwa [if_pos rfl] at h
theorem entR_app' {W0 : World} {Bw : Nat} {vO : Value} {O : List Ob} {w w' : World} {M : List It} {sz : Nat} {vI : Value} (hw : Wlk W0 Bw vO O w M sz vI) (hg : w.grownBy w' vI.ownBlock) : entR W0 Bw vI 11 w w' := by
 refine ⟨hw.from_, ?_⟩
 rw [if_pos rfl]
 exact ⟨hg, fun g e => ⟨(hw.items.rowI e).1, fun e2 => hw.apart (by rw [e, e2]), (hw.items.rowI e).2⟩⟩
theorem entR_set' {W0 : World} {Bw : Nat} {vI : Value} {w : World} {xs : Array Value} (hB : W0.heap.size ≤ Bw) (hr : Row w Bw xs 57) (u : Value) : entR W0 Bw vI 14 w (w.setCell ⟨Bw, 1, none⟩ u) := by
 refine ⟨hB, ?_⟩
 rw [if_neg (by decide)]
 exact ⟨u, xs, hr, rfl⟩
noncomputable def entLE (O : List Ob) : Nat → List UInt8 → List It → En → Except Int (List It)
 | 0, _, _, _ => .error 8
 | k + 1, dp, out, e => ent1E O (dirE O k) dp out e
theorem dirE_eq {O : List Ob} {k : Nat} {key dp : List UInt8} {out : List It} : dirE O k key dp out = match loadE O key 3 with
  | .error x => .error x
  | .ok n => entsE (entLE O k dp) n.es out := by cases k <;> rfl
theorem dirE_bad {O : List Ob} {k : Nat} {key dp : List UInt8} {out : List It} {x : Int} (h : loadE O key 3 = .error x) : dirE O k key dp out = .error x := by rw [dirE_eq, h]
theorem dirE_ok {O : List Ob} {k : Nat} {key dp : List UInt8} {out : List It} {n : Nd} (h : loadE O key 3 = .ok n) : dirE O k key dp out = entsE (entLE O k dp) n.es out := by rw [dirE_eq, h]
theorem ent1_many {O : List Ob} {sub : List UInt8 → List UInt8 → List It → Except Int (List It)} {dp : List UInt8} {out : List It} {e : En} (h : 60 ≤ out.length) : ent1E O sub dp out e = .error 9 := by unfold ent1E; rw [if_pos h]
theorem preL_few : ∀ (k : Nat) (D : List (List UInt8)), D.length = k → (∀ p ∈ D, nameB p = true) → (preL D).length ≤ 32 * k ∧ (preL D).count 47 = k
 | 0, D, hk, _ => by
  obtain rfl := List.length_eq_zero_iff.1 hk
  exact ⟨Nat.le_refl _, rfl⟩
 | k + 1, D, hk, h => by
  have hne : D ≠ [] := by rintro rfl; cases hk
  have e := List.dropLast_concat_getLast hne
  have hd : ∀ p ∈ D.dropLast, nameB p = true := fun p hp => h p ((List.dropLast_sublist D).subset hp)
  have hl := h _ (List.getLast_mem hne)
  obtain ⟨h1, h2⟩ := preL_few k D.dropLast (by rw [List.length_dropLast]; omega) hd
  have hp := (pre_pts hd hl).2
  rw [e] at hp
  rw [← hp]
  have hn := (nameB_iff.1 hl).2.1
  have hz : (D.getLast hne).count 47 = 0 := List.count_eq_zero.2 (free_name hl)
  refine ⟨by simp only [List.length_append, List.length_cons, List.length_nil]; omega, ?_⟩
  rw [List.count_append, List.count_append, h2, hz]; rfl
theorem sizeT_one (y : It) : sizeT [y] = y.c.size := by simp [sizeT]
theorem sizeT_dir (M : List It) (aa : ByteArray) : sizeT (M ++ [(⟨aa, true, false, ⟨#[]⟩⟩ : It)]) = sizeT M := by rw [sizeT_app, sizeT_one]; rfl
def RetEnt (W0 : World) (Bw : Nat) (vO : Value) (O : List Ob) (r : Except Int (List It)) (w : World) (e : Ending) (w' : World) : Prop :=
 (∃ M vI, r = .ok M ∧ e = .returned .nilIface ∧ Wlk W0 Bw vO O w' M (sizeT M) vI ∧ M.length ≤ 60 ∧ sizeT M ≤ 65536 ∧ Wk W0.heap.size Bw w w')
 ∨ ∃ k x, r = .error k ∧ k ∈ wrongs ∧ e = .returned (faultV x k) ∧ Wk W0.heap.size Bw w w'
def DirFAt (W0 : World) (Bw : Nat) (vO : Value) (O : List Ob) (k : Nat) : Prop :=
 ∀ (D : List (List UInt8)) (ahead key : ByteArray) (w : World) (M : List It) (vI : Value), D.length + k = 8 → (∀ n ∈ D, nameB n = true) → ahead.data.toList = preL D → Wlk W0 Bw vO O w M (sizeT M) vI → M.length ≤ 60 → sizeT M ≤ 65536 →
  Calls Tryz.prog 25 #[.pointer (some ⟨Bw, 0, none⟩), .string key, .string ahead] w (RetEnt W0 Bw vO O (dirE O k key.data.toList (preL D) M) w)
def DirLess (W0 : World) (Bw : Nat) (vO : Value) (O : List Ob) : Nat → Prop
 | 0 => True
 | k + 1 => DirFAt W0 Bw vO O k
def fenU (W0 : World) (Bw be : Nat) (vO vI : Value) (O : List Ob) (M : List It) (sz : Nat) (x : En) (aa s : ByteArray) : Nat → Value → Value → World → Prop
 | 0 => fun v _ _ => v = .pointer (some ⟨Bw, 0, none⟩)
 | 1 => fun v _ _ => v = .pointer (some ⟨Bw, 0, none⟩)
 | 2 => fun v _ _ => v = .pointer (some ⟨Bw, 0, none⟩)
 | 3 => fun v _ _ => v = .pointer (some ⟨Bw, 1, none⟩)
 | 4 => fun v _ _ => v = vI
 | 5 => fun v _ _ => v = .string aa
 | 6 => fun v _ _ => v = .pointer (some ⟨be, 2, none⟩)
 | 7 => fun v _ _ => v = .bool x.x
 | 8 => fun v _ _ => v = .string s
 | 9 => fun v _ _ => v = itV (⟨aa, false, x.x, s⟩ : It)
 | 10 => fun v _ w => OneIt w v (⟨aa, false, x.x, s⟩ : It)
 | 11 => fun v _ w => OwnI W0.heap.size w v (M ++ [(⟨aa, false, x.x, s⟩ : It)])
 | 12 => fun v _ _ => v = .pointer (some ⟨Bw, 0, none⟩)
 | 13 => fun v _ _ => v = .pointer (some ⟨Bw, 1, none⟩)
 | 14 => fun _ e w => Row w Bw #[vO, e, .int .i64 sz] 57 ∧ OwnI W0.heap.size w e (M ++ [(⟨aa, false, x.x, s⟩ : It)])
 | 15 => fun _ _ w => Wlk W0 Bw vO O w M sz vI
 | 16 => fun _ _ w => Row w be #[.string x.m, .int .i64 x.kd, .bool x.x, .string x.k] 89
 | 17 => fun _ _ w => Row w Bw #[vO, vI, .int .i64 sz] 57
 | _ => fun _ _ _ => True
def fenN : List (List Nat) := [[], [], [1], [2], [3, 15], [], [], [6, 16], [], [5, 7, 8], [9], [4, 10, 15], [0], [12], [13, 11, 17]]
def fenE : Nat → Option Tmp
 | 14 => some 72
 | _ => none
def fenB : List (Nat × Nat) := [(11, 10), (11, 14), (11, 15), (11, 16), (14, 10), (14, 11), (14, 15), (14, 16), (14, 17)]
theorem fen_T (W0 : World) (Bw be : Nat) (vO vI : Value) (O : List Ob) (M : List It) (sz : Nat) (x : En) (aa s : ByteArray) (ix kx : Nat) (v e : Value) (w w' : World) (hk : kx < 18) (hne : kx ≠ ix) (hbd : (ix, kx) ∉ fenB) (hU : (fenU W0 Bw be vO vI O M sz x aa s) kx v e w) (hT : (appTs [11, 14] (entR W0 Bw vI)) ix w w') : (fenU W0 Bw be vO vI O M sz x aa s) kx v e w' := by
 by_cases hi11 : ix = 11
 ·subst hi11
  have hR := appTs_in (by decide) hT
  rcases (show kx = 0 ∨ kx = 1 ∨ kx = 2 ∨ kx = 3 ∨ kx = 4 ∨ kx = 5 ∨ kx = 6 ∨ kx = 7 ∨ kx = 8 ∨ kx = 9 ∨ kx = 10 ∨ kx = 11 ∨ kx = 12 ∨ kx = 13 ∨ kx = 14 ∨ kx = 15 ∨ kx = 16 ∨ kx = 17 by omega) with rfl | rfl | rfl | rfl | rfl | rfl | rfl | rfl | rfl | rfl | rfl | rfl | rfl | rfl | rfl | rfl | rfl | rfl
  iterate 10 exact hU
  ·exact absurd (by decide) hbd
  ·exact absurd rfl hne
  ·exact hU
  ·exact hU
  ·exact absurd (by decide) hbd
  ·exact absurd (by decide) hbd
  ·exact absurd (by decide) hbd
  ·exact ((entR_app hR).1.block Bw hU.lt (fun e => ((entR_app hR).2 Bw e.symm).2.1 rfl)).trans hU
 by_cases hi14 : ix = 14
 ·subst hi14
  have hR := appTs_in (by decide) hT
  rcases (show kx = 0 ∨ kx = 1 ∨ kx = 2 ∨ kx = 3 ∨ kx = 4 ∨ kx = 5 ∨ kx = 6 ∨ kx = 7 ∨ kx = 8 ∨ kx = 9 ∨ kx = 10 ∨ kx = 11 ∨ kx = 12 ∨ kx = 13 ∨ kx = 14 ∨ kx = 15 ∨ kx = 16 ∨ kx = 17 by omega) with rfl | rfl | rfl | rfl | rfl | rfl | rfl | rfl | rfl | rfl | rfl | rfl | rfl | rfl | rfl | rfl | rfl | rfl
  iterate 10 exact hU
  ·exact absurd (by decide) hbd
  ·exact absurd (by decide) hbd
  ·exact hU
  ·exact hU
  ·exact absurd rfl hne
  ·exact absurd (by decide) hbd
  ·exact absurd (by decide) hbd
  ·exact absurd (by decide) hbd
 have hi : ix ∉ [11, 14] := by simp [hi11, hi14]
 have hb : Below w.heap.size w w' := appTs_out hi hT
 rcases (show kx = 0 ∨ kx = 1 ∨ kx = 2 ∨ kx = 3 ∨ kx = 4 ∨ kx = 5 ∨ kx = 6 ∨ kx = 7 ∨ kx = 8 ∨ kx = 9 ∨ kx = 10 ∨ kx = 11 ∨ kx = 12 ∨ kx = 13 ∨ kx = 14 ∨ kx = 15 ∨ kx = 16 ∨ kx = 17 by omega) with rfl | rfl | rfl | rfl | rfl | rfl | rfl | rfl | rfl | rfl | rfl | rfl | rfl | rfl | rfl | rfl | rfl | rfl
 iterate 10 exact hU
 ·exact OneIt.stays hU hb
 ·exact OwnI.stays hU hb
 ·exact hU
 ·exact hU
 ·exact ⟨Row.step hU.1 hb, OwnI.stays hU.2 hb⟩
 ·exact Wlk.stays hU hb
 ·exact Row.step hU hb
 ·exact Row.step hU hb
set_option maxRecDepth 100000 in
set_option maxHeartbeats 16000000 in
theorem fentry_any (W0 : World) (Bw : Nat) (vO : Value) (O : List Ob) (hr : RiseO O) (hl : O.length ≤ 1000000) (hz : ∀ y ∈ O, y.r.size ≤ 1000000) (k : Nat) (IH : DirLess W0 Bw vO O k) (D : List (List UInt8)) (x : En) (aa : ByteArray) (w : World) (M : List It) (vI : Value)
  (hk : D.length + k = 8) (hD : ∀ n ∈ D, nameB n = true) (hx : okEn x = true) (ha : aa.data.toList = preL D ++ x.m.data.toList) (h : Wlk W0 Bw vO O w M (sizeT M) vI) (hM : M.length ≤ 60) (hS : sizeT M ≤ 65536) :
  Calls Tryz.prog 52 #[.pointer (some ⟨Bw, 0, none⟩), enV x, .string aa] w (RetEnt W0 Bw vO O (entLE O k (preL D) M x) w) := by
 obtain ⟨hxm, hxd⟩ : nameB x.m.data.toList = true ∧ (x.kd = 2 ∨ x.kd = 3 ∧ x.x = false) := by
  unfold okEn at hx; simp at hx
  refine ⟨hx.1.1, ?_⟩
  rcases hx.2 with h | ⟨h, g⟩
  ·exact .inl h
  ·exact .inr ⟨h, g⟩
 obtain ⟨hp1, hp2⟩ := preL_few D.length D rfl hD
 have hm31 := (nameB_iff.1 hxm).2.1
 have has : aa.size ≤ 1000 := by
  rw [Lib.size_eq, ha, List.length_append]; omega
 have hcn : aa.data.toList.count 47 = D.length := by
  rw [ha, List.count_append, hp2, List.count_eq_zero.2 (free_name hxm)]; rfl
 have CN := Lib.hid (fun W => names_any aa (by omega) W)
 rw [hcn] at CN
 obtain ⟨dl, hdl⟩ : ∃ dl, dl = D.length := ⟨_, rfl⟩
 rw [← hdl] at CN hk
 obtain ⟨V, hV⟩ : ∃ V, V = w.alloc (.cells #[.string x.m, .int .i64 x.kd, .bool x.x, .string x.k] 89) := ⟨_, rfl⟩
 have hbV : Below w.heap.size w V := by rw [hV]; exact (Below.refl _ _).alloc (Nat.le_refl _) _
 have HBX : Hid (Row V w.heap.size #[.string x.m, .int .i64 x.kd, .bool x.x, .string x.k] 89) := Lib.hid (by rw [hV]; exact Row.made _ _ _)
 have hbx := HBX.out
 have b0 : V.cell? ⟨w.heap.size, 0, none⟩ = some (.string x.m) := hbx.cell 0
 have b1 : V.cell? ⟨w.heap.size, 1, none⟩ = some (.int .i64 x.kd) := hbx.cell 1
 have b2 : V.cell? ⟨w.heap.size, 2, none⟩ = some (.bool x.x) := hbx.cell 2
 have b3 : V.cell? ⟨w.heap.size, 3, none⟩ = some (.string x.k) := hbx.cell 3
 have HWV := Lib.hid (h.stays hbV)
 have HFM : Hid (W0.heap.size ≤ Bw) := Lib.hid h.from_
 have HBWL : Hid (Bw < w.heap.size) := Lib.hid h.lt
 have HKV := Lib.hid (Wk.of_below (B := W0.heap.size) (Bw := Bw) hbV)
 have HV := Lib.hid hV
 have HDN := Lib.hid hD; have HXM := Lib.hid hxm; have HA := Lib.hid ha; have HDL := Lib.hid hdl; have HIH := Lib.hid IH
 have HR := Lib.hid hr; have HZ := Lib.hid hz; have HX := Lib.hid hx; have HXD := Lib.hid hxd
 clear hbV hV hbx hD hxm ha hdl IH hr hz hx hxd hcn hp1 hp2 hm31 h
 cases k with
 | zero =>
  have q1 : decide ((8 : Int) < ((dl : Int) + 1)) = true := decide_eq_true (by omega)
  go_enter Tryz.func52, Tryz.ntmps52
  go_wp2_with fail
  rw [← HV.out]
  with_reducible refine (CN.out _).mono ?_
  rintro e w1 ⟨rfl, rfl⟩
  go_wp2
  go_ret
  exact .inr ⟨8, x.k, rfl, by decide, rfl, HKV.out⟩
 | succ k =>
  have q1 : decide ((8 : Int) < ((dl : Int) + 1)) = false := decide_eq_false (by omega)
  obtain ⟨_, ia, ic, hvI, _, _⟩ := HWV.out.items.items
  obtain ⟨z, hzl⟩ : ∃ z, z = M.length := ⟨_, rfl⟩
  rw [← hzl] at hvI
  have HZL := Lib.hid hzl
  obtain ⟨c0, c1, c2⟩ := HWV.out.cells
  have HM := Lib.hid hM; have HS := Lib.hid hS
  clear hzl hM hS
  subst hvI
  by_cases h60 : 60 ≤ z
  ·have q2 : decide ((60 : Int) ≤ (z : Int)) = true := decide_eq_true (by omega)
   have HE := Lib.hid (ent1_many (O := O) (sub := dirE O k) (dp := preL D) (e := x) (show 60 ≤ M.length by have := HZL.out; omega))
   clear h60
   go_enter Tryz.func52, Tryz.ntmps52
   go_wp2_with fail
   rw [← HV.out]
   with_reducible refine (CN.out _).mono ?_
   rintro e w1 ⟨rfl, rfl⟩
   go_wp2
   go_ret
   exact .inr ⟨9, x.k, HE.out, by decide, rfl, HKV.out⟩
  ·have q2 : decide ((60 : Int) ≤ (z : Int)) = false := decide_eq_false (by omega)
   have HLT := Lib.hid (show M.length < 60 by have := HZL.out; omega)
   clear h60
   by_cases hd : x.kd = 3
   ·have q3 : (x.kd == 3) = true := beq_iff_eq.2 hd
    have HE := Lib.hid (ent1_dir (O := O) (sub := dirE O k) (dp := preL D) HLT.out hd)
    have HHD := Lib.hid hd
    clear hd
    go_enter Tryz.func52, Tryz.ntmps52
    go_wp2_with fail
    rw [← HV.out]
    with_reducible refine (CN.out _).mono ?_
    rintro e w1 ⟨rfl, rfl⟩
    have hlx : w.heap.size < V.heap.size := HBX.out.lt
    have HVZ : Hid (V.heap.size = V.heap.size) := Lib.hid rfl
    go_wp2_with (at_builtin; refine wpList_append_it (y := (⟨aa, true, false, ⟨#[]⟩⟩ : It)) rfl _ _ rfl HWV.out.items HWV.out.below.size rfl rfl rfl (by have := HLT.out; omega) ?_)
    intro v' w2 hown2 hg2
    obtain ⟨hw3, hk3, hrow2⟩ := HWV.out.more hg2 hown2
    have HW3 := Lib.hid hw3; have HK3 := Lib.hid (HKV.out.trans hk3)
    have hne : w.heap.size ≠ Bw := by have := HBWL.out; omega
    have hb2 : Row w2 w.heap.size #[.string x.m, .int .i64 x.kd, .bool x.x, .string x.k] 89 := (Wk.turn (B := W0.heap.size) (Bw := Bw) hg2 (fun g e => HWV.out.items.rowI e)).row HBX.out (by decide) hne
    have b3 : w2.cell? ⟨w.heap.size, 3, none⟩ = some (.string x.k) := hb2.cell 3
    have c1 : w2.cell? ⟨Bw, 1, none⟩ = some _ := hrow2.cell 1
    have g1 := hrow2.free 1
    obtain ⟨_, ua, uc, hue, _, _⟩ := hown2.items
    obtain ⟨z2, hz2⟩ : ∃ z2, z2 = (M ++ [(⟨aa, true, false, ⟨#[]⟩⟩ : It)]).length := ⟨_, rfl⟩
    rw [← hz2] at hue
    clear hz2
    subst hue
    have hng : ¬ (9223372036854775807 : Int) < (aa.size : Int) + 1 := by omega
    clear hown2 hg2 hw3 hk3 hrow2 hb2
    obtain ⟨hpp1, hpp2⟩ := pre_pts HDN.out HXM.out
    have HCD := Lib.hid (fun ah (hah : ah.data.toList = preL (D ++ [x.m.data.toList])) W hW => (show DirFAt W0 Bw vO O k from HIH.out) (D ++ [x.m.data.toList]) ah x.k W (M ++ [(⟨aa, true, false, ⟨#[]⟩⟩ : It)]) (.slice ua z2 uc) (by rw [List.length_append, ← HDL.out]; simp; omega) (fun n hn => by
     rcases List.mem_append.1 hn with h | h
     ·exact HDN.out n h
     ·rw [List.mem_singleton.1 h]; exact HXM.out) hah hW (by rw [List.length_append]; have := HLT.out; simp; omega) (by rw [sizeT_dir]; exact HS.out))
    have HAH : Hid ((aa ++ ⟨#[47]⟩ : ByteArray).data.toList = preL (D ++ [x.m.data.toList])) := Lib.hid (by rw [← hpp2, ← HA.out]; simp)
    have hsz : sizeT (M ++ [(⟨aa, true, false, ⟨#[]⟩⟩ : It)]) = sizeT M := sizeT_dir _ _
    rw [← hsz] at HW3
    have HEQ : Hid (dirE O k x.k.data.toList (preL (D ++ [x.m.data.toList])) (M ++ [(⟨aa, true, false, ⟨#[]⟩⟩ : It)]) = entLE O (k + 1) (preL D) M x) := Lib.hid (by
     show _ = ent1E O (dirE O k) (preL D) M x
     rw [HE.out, ← HA.out, ← hpp2, ← HA.out])
    clear hpp1 hpp2 hsz
    go_wp2_with fail
    have CD := Lib.hid (HCD.out _ HAH.out _ HW3.out)
    refine CD.out.mono ?_
    rintro e w4 (⟨M', vJ, hre, rfl, hw4, hl4, hs4, hk4⟩ | ⟨kk, y, hre, hkk, rfl, hk4⟩)
    ·have HRE := Lib.hid (HEQ.out.symm.trans hre)
     have HW4 := Lib.hid hw4; have HK4 := Lib.hid (HK3.out.trans hk4); have HL4 := Lib.hid hl4; have HS4 := Lib.hid hs4
     clear hre hw4 hk4 hl4 hs4
     go_wp2
     go_ret
     exact .inl ⟨M', vJ, HRE.out, rfl, HW4.out, HL4.out, HS4.out, HK4.out⟩
    ·have HRE := Lib.hid (HEQ.out.symm.trans hre)
     have HKK := Lib.hid hkk; have HK4 := Lib.hid (HK3.out.trans hk4)
     clear hre hkk hk4
     go_wp2
     go_ret
     exact .inr ⟨kk, y, HRE.out, HKK.out, rfl, HK4.out⟩
   ·have q3 : (x.kd == 3) = false := beq_eq_false_iff_ne.2 hd
    have HHD := Lib.hid hd
    clear hd
    have CF := Lib.hid (file_any W0 Bw vO O HR.out hl HZ.out x.k V M (sizeT M) _ HWV.out HS.out)
    go_enter Tryz.func52, Tryz.ntmps52
    go_wp2_with fail
    rw [← HV.out]
    with_reducible refine (CN.out _).mono ?_
    rintro e w1 ⟨rfl, rfl⟩
    go_wp2_with fail
    with_reducible refine CF.out.mono ?_
    rintro e w3 (⟨fl, hok, rfl, hw3, hf3⟩ | ⟨kk, y, hbad, hkk, rfl, _, hf3⟩)
    ·have HFL := Lib.hid (file_len hok (by have := HS.out; omega))
     have HE := Lib.hid (ent1_file (O := O) (sub := dirE O k) (dp := preL D) HLT.out HHD.out hok)
     have HWZ := Lib.hid hw3
     have hbx3 : Row w3 w.heap.size #[.string x.m, .int .i64 x.kd, .bool x.x, .string x.k] 89 := hf3.row HBX.out HBX.out.lt (by have := HBWL.out; omega)
     have HBX3 := Lib.hid hbx3
     have HK3 := Lib.hid (HKV.out.trans (Wk.of_wf hf3))
     have hMl : M.length ≤ 60 := HM.out
     clear c0 c1 c2 b0 b1 b2 b3 hw3 hf3 hok hbx3
     obtain ⟨s, hs⟩ : ∃ s : ByteArray, s = ⟨fl.toArray⟩ := ⟨_, rfl⟩
     rw [← hs]
     have HSE := Lib.hid hs
     clear hs
     obtain ⟨sz, hsz⟩ : ∃ sz, sz = sizeT M + fl.length := ⟨_, rfl⟩
     rw [← hsz] at HWZ
     have HSZ := Lib.hid hsz
     clear hsz
     obtain ⟨Wz, hWz⟩ : ∃ Wz, Wz = w3 := ⟨_, rfl⟩
     go_wp2_with fail
     rw [← hWz] at HWZ HBX3 HK3 ⊢
     clear hWz
     have HBX := HBX3
     obtain ⟨be, hbe⟩ : ∃ be, be = w.heap.size := ⟨_, rfl⟩
     rw [← hbe] at HBX ⊢
     clear hbe
     obtain ⟨vI, hvI⟩ : ∃ vI, vI = Value.slice ia z ic := ⟨_, rfl⟩
     rw [← hvI] at HWZ
     clear hvI
     refine wp_region_wordsG (by kernel_rfl) (by kernel_rfl) (appTs [11, 14] (entR W0 Bw vI)) (EntG W0 Bw Wz) fenE (fenU W0 Bw be vO vI O M sz x aa s) 18 fenN [14] (by kernel_rfl) (by kernel_rfl) (by kernel_rfl)
      fenB (by kernel_rfl) (fun ix kx v e w w' hi hk hne hb hU hT => fen_T _ _ _ _ _ _ _ _ _ _ _  ix kx v e w w' hk hne hb hU hT) (by decide) (EntG.drew HWZ.out) (fun kx hk hge => ?hv0)
      [61, 62, 63, 64, 65, 66, 67, 68, 69, 70, 71, 72, 73, 74] (by kernel_rfl) (forall_ops ?steps) ?behind
     case hv0 =>
      have hge' : 15 ≤ kx := hge
      rcases (show kx = 15 ∨ kx = 16 ∨ kx = 17 by omega) with rfl | rfl | rfl
      ·exact HWZ.out.stays ((Below.refl _ _).drew)
      ·exact HBX.out.drew
      ·exact HWZ.out.row.drew
     case steps =>
      refine ⟨?_, ?_, ?_, ?_, ?_, ?_, ?_, ?_, ?_, ?_, ?_, ?_, ?_, ?_, ?_, trivial⟩
      ·refine stepG_of rfl ?_
       exact stepR_value (t := 61) (.pointer (some ⟨Bw, 0, none⟩)) rfl (fun _ => appTs_other (by decide) (Below.refl _ _)) (fun ac w hG hN hO => by
        have e0 : slot ac 0 = .pointer (some ⟨Bw, 0, none⟩) := hO 0 (by kernel_rfl)
        exact run_move_slot (.inl rfl) e0) (fun ac w hG hN => rfl)
      ·refine stepG_of rfl ?_
       exact stepR_value (t := 62) (.pointer (some ⟨Bw, 0, none⟩)) rfl (fun _ => appTs_other (by decide) (Below.refl _ _)) (fun ac w hG hN hO => by
        have e0 : slot ac 0 = .pointer (some ⟨Bw, 0, none⟩) := hO 0 (by kernel_rfl)
        exact run_move_slot (.inl rfl) e0) (fun ac w hG hN => rfl)
      ·refine stepG_of rfl ?_
       exact stepR_value (t := 63) (.pointer (some ⟨Bw, 0, none⟩)) rfl (fun _ => appTs_other (by decide) (Below.refl _ _)) (fun ac w hG hN hO => by
        have e62 : slot ac 62 = .pointer (some ⟨Bw, 0, none⟩) := hN 1 (by decide)
        have f62 := slot_at e62
        unfold execOp; go_simp) (fun ac w hG hN => rfl)
      ·refine stepG_of rfl ?_
       exact stepR_value (t := 64) (.pointer (some ⟨Bw, 1, none⟩)) rfl (fun _ => appTs_other (by decide) (Below.refl _ _)) (fun ac w hG hN hO => by
        have e63 : slot ac 63 = .pointer (some ⟨Bw, 0, none⟩) := hN 2 (by decide)
        have f63 := slot_at e63
        unfold execOp; go_simp) (fun ac w hG hN => rfl)
      ·refine stepG_of rfl ?_
       exact stepR_value (t := 65) vI rfl (fun _ => appTs_other (by decide) (Below.refl _ _)) (fun ac w9 hG hN hO => by
        have e64 : slot ac 64 = .pointer (some ⟨Bw, 1, none⟩) := hN 3 (by decide)
        have hx : Wlk W0 Bw vO O w9 M sz vI := hN 15 (by decide)
        have c1 := hx.cells.2.1
        have f := slot_at e64
        unfold execOp; go_simp) (fun ac w9 hG hN => rfl)
      ·refine stepG_of rfl ?_
       exact stepR_value (t := 66) (.string aa) rfl (fun _ => appTs_other (by decide) (Below.refl _ _)) (fun ac w hG hN hO => by
        have e2 : slot ac 2 = .string aa := hO 2 (by kernel_rfl)
        exact run_move_slot (.inl rfl) e2) (fun ac w hG hN => rfl)
      ·refine stepG_of rfl ?_
       exact stepR_value (t := 67) (.pointer (some ⟨be, 2, none⟩)) rfl (fun _ => appTs_other (by decide) (Below.refl _ _)) (fun ac w hG hN hO => by
        have e4 : slot ac 4 = .pointer (some ⟨be, 0, none⟩) := hO 4 (by kernel_rfl)
        have f4 := slot_at e4
        unfold execOp; go_simp) (fun ac w hG hN => rfl)
      ·refine stepG_of rfl ?_
       exact stepR_value (t := 68) (.bool x.x) rfl (fun _ => appTs_other (by decide) (Below.refl _ _)) (fun ac w9 hG hN hO => by
        have e67 : slot ac 67 = .pointer (some ⟨be, 2, none⟩) := hN 6 (by decide)
        have hx : Row w9 be #[.string x.m, .int .i64 x.kd, .bool x.x, .string x.k] 89 := hN 16 (by decide)
        have c0 : w9.cell? ⟨be, 2, none⟩ = some (.bool x.x) := hx.cell 2
        have f := slot_at e67
        unfold execOp; go_simp) (fun ac w9 hG hN => rfl)
      ·refine stepG_of rfl ?_
       exact stepR_value (t := 69) (.string s) rfl (fun _ => appTs_other (by decide) (Below.refl _ _)) (fun ac w hG hN hO => by
        have e7 : slot ac 7 = .string s := hO 7 (by kernel_rfl)
        exact run_move_slot (.inl rfl) e7) (fun ac w hG hN => rfl)
      ·refine stepG_of rfl ?_
       exact stepR_value (t := 70) (itV (⟨aa, false, x.x, s⟩ : It)) rfl (fun _ => appTs_other (by decide) (Below.refl _ _)) (fun ac w hG hN hO => by
        have e66 : slot ac 66 = .string aa := hN 5 (by decide)
        have e68 : slot ac 68 = .bool x.x := hN 7 (by decide)
        have e69 : slot ac 69 = .string s := hN 8 (by decide)
        have f66 := slot_at e66
        have f68 := slot_at e68
        have f69 := slot_at e69
        unfold execOp; go_simp) (fun ac w hG hN => rfl)
      ·refine stepG_of rfl ?_
       intro ac w9 hG hN hO
       have e70 : slot ac 70 = itV (⟨aa, false, x.x, s⟩ : It) := hN 9 (by decide)
       refine wp_build_it 70 rfl (x := (⟨aa, false, x.x, s⟩ : It)) e70 ?_
       exact ⟨_, rfl, appTs_other (by decide) ((Below.refl _ _).alloc (Nat.le_refl _) _), hG.on ((Below.refl _ _).alloc (Nat.le_refl _) _), oneIt_new w9 _⟩
      ·refine stepG_of rfl ?_
       intro ac w9 hG hN hO
       have e65 : slot ac 65 = vI := hN 4 (by decide)
       have e71 : OneIt w9 (slot ac 71) (⟨aa, false, x.x, s⟩ : It) := hN 10 (by decide)
       have hx : Wlk W0 Bw vO O w9 M sz vI := hN 15 (by decide)
       refine wp_append_one_it 65 71 rfl hx.items hx.below.size (slotE e65) e71 (by omega) ?_
       intro v' w' hown' hg
       exact ⟨v', rfl, appTs_at (by decide) (entR_app' hx hg), hG.grown hx hg, hown'⟩
      ·refine stepG_of rfl ?_
       exact stepR_value (t := 73) (.pointer (some ⟨Bw, 0, none⟩)) rfl (fun _ => appTs_other (by decide) (Below.refl _ _)) (fun ac w hG hN hO => by
        have e61 : slot ac 61 = .pointer (some ⟨Bw, 0, none⟩) := hN 0 (by decide)
        have f61 := slot_at e61
        unfold execOp; go_simp) (fun ac w hG hN => rfl)
      ·refine stepG_of rfl ?_
       exact stepR_value (t := 74) (.pointer (some ⟨Bw, 1, none⟩)) rfl (fun _ => appTs_other (by decide) (Below.refl _ _)) (fun ac w hG hN hO => by
        have e73 : slot ac 73 = .pointer (some ⟨Bw, 0, none⟩) := hN 12 (by decide)
        have f73 := slot_at e73
        unfold execOp; go_simp) (fun ac w hG hN => rfl)
      ·refine stepG_of rfl ?_
       intro ac w9 hG hN hO
       have e74 : slot ac 74 = .pointer (some ⟨Bw, 1, none⟩) := hN 13 (by decide)
       have hrow : Row w9 Bw #[vO, vI, .int .i64 sz] 57 := hN 17 (by decide)
       have hown : OwnI W0.heap.size w9 (slot ac 72) (M ++ [(⟨aa, false, x.x, s⟩ : It)]) := hN 11 (by decide)
       have hc : w9.cell? ⟨Bw, 1, none⟩ = some vI := hrow.cell 1
       have hf := hrow.free 1
       have f1 := slot_at e74
       obtain ⟨u, hu⟩ : ∃ u, u = slot ac 72 := ⟨_, rfl⟩
       have f2 := slot_at hu.symm
       rw [← hu] at hown
       obtain ⟨_, ua, uc, hue, _, _⟩ := hown.items
       subst hue
       have hs := hrow.set 1 (.slice ua (M ++ [(⟨aa, false, x.x, s⟩ : It)]).length uc)
       exact wp_skip (w' := w9.setCell ⟨Bw, 1, none⟩ (.slice ua (M ++ [(⟨aa, false, x.x, s⟩ : It)]).length uc)) (by unfold execOp; go_simp) ⟨undef, rfl, appTs_at (by decide) (entR_set' HFM.out hrow _), hG.set HFM.out _, by
        show Row _ Bw #[vO, exV fenE 14 ac, .int .i64 sz] _ ∧ OwnI _ _ (exV fenE 14 ac) _
        rw [show exV fenE 14 ac = slot ac 72 from rfl, ← hu]
        exact ⟨hs, own_set hown hrow _⟩⟩
     case behind =>
      intro ac w5 hG hV hS ha
      have h14 : Row w5 Bw #[vO, (slot ac 72), .int .i64 sz] 57 ∧ OwnI W0.heap.size w5 (slot ac 72) (M ++ [(⟨aa, false, x.x, s⟩ : It)]) := hV 14 (by decide) (by decide)
      generalize slot ac = sl at ha h14
      subst ha
      simp only [patchL, List.contains_cons, List.contains_nil, Nat.reduceBEq, Bool.or_false, Bool.or_true, if_true, Bool.false_eq_true, if_false, Nat.reduceAdd]
      generalize sl 61 = s61
      generalize sl 62 = s62
      generalize sl 63 = s63
      generalize sl 64 = s64
      generalize sl 65 = s65
      generalize sl 66 = s66
      generalize sl 67 = s67
      generalize sl 68 = s68
      generalize sl 69 = s69
      generalize sl 70 = s70
      generalize sl 71 = s71
      generalize sl 72 = s72 at h14 ⊢
      generalize sl 73 = s73
      generalize sl 74 = s74
      clear hV hS
      have HK5 := Lib.hid hG.wk; have HB5 := Lib.hid hG.below
      obtain ⟨hrow5, hown5⟩ := h14
      have HR5 := Lib.hid hrow5; have HO5 := Lib.hid hown5
      clear hrow5 hown5 hG
      go_wp2
      go_ret
      exact .inl ⟨M ++ [(⟨aa, false, x.x, s⟩ : It)], _, by
        show ent1E O (dirE O k) (preL D) M x = _
        rw [HE.out, ← HA.out, ← HSE.out], rfl, by
        have e : sizeT (M ++ [(⟨aa, false, x.x, s⟩ : It)]) = sz := by
         have hs : s.size = fl.length := by rw [Lib.size_eq, HSE.out]
         rw [sizeT_app, HSZ.out, sizeT_one]
         show sizeT M + s.size = _
         rw [hs]
        rw [e]
        exact ⟨HR5.out, HWZ.out.objs, HO5.out, HFM.out, HB5.out, HWZ.out.err⟩, by rw [List.length_append]; have := HLT.out; simp; omega, by
        have hs : s.size = fl.length := by rw [Lib.size_eq, HSE.out]
        have h1 := HFL.out; have h2 := HS.out
        rw [sizeT_app, sizeT_one]
        show sizeT M + s.size ≤ _
        omega, HK3.out.trans HK5.out⟩
    ·have HE := Lib.hid (ent1_err (O := O) (sub := dirE O k) (dp := preL D) HLT.out HHD.out hbad)
     have HKK := Lib.hid hkk
     have HK3 := Lib.hid (HKV.out.trans (Wk.of_wf hf3))
     clear hbad hkk hf3 c0 c1 c2 b0 b1 b2 b3
     go_wp2
     go_ret
     exact .inr ⟨kk, y, HE.out, HKK.out, rfl, HK3.out⟩
theorem ents_step {f : List It → En → Except Int (List It)} {E : List En} {out : List It} {j : Nat} (hj : j < E.length) : entsE f (E.drop j) out = match f out E[j] with
  | .error x => .error x
  | .ok out' => entsE f (E.drop (j + 1)) out' := by
 rw [List.drop_eq_getElem_cons hj]; rfl
theorem ents_okEn {n : Nd} (h : fitN n = true) (hk : n.kd = 3) : ∀ x ∈ n.es, okEn x = true := by
 rw [fit_dir hk] at h
 simp [fitDirB] at h
 exact fun x hx => h.2.1 x hx
structure DirL (W0 : World) (Bw : Nat) (vO : Value) (O : List Ob) (w1 : World) (k : Nat) (dp : List UInt8) (es : List En) (M0 : List It) (j : Nat) (M : List It) (vI : Value) (wr : World) : Prop where
 ents : entsE (entLE O k dp) (es.drop j) M = entsE (entLE O k dp) es M0
 wlk : Wlk W0 Bw vO O wr M (sizeT M) vI
 many : M.length ≤ 60
 size : sizeT M ≤ 65536
 wk : Wk W0.heap.size Bw w1 wr
set_option maxRecDepth 100000 in
set_option maxHeartbeats 16000000 in
theorem fdir_step (W0 : World) (Bw : Nat) (vO : Value) (O : List Ob) (hr : RiseO O) (hl : O.length ≤ 1000000) (hz : ∀ y ∈ O, y.r.size ≤ 1000000) (k : Nat) (IH : DirLess W0 Bw vO O k) : DirFAt W0 Bw vO O k := by
 intro D ahead key w M0 vI hk hD hah h hM hS
 have CL := Lib.hid (h.load hr hl hz key 3)
 have CE := Lib.hid (fun x aa w M vI hx ha h hM hS => fentry_any W0 Bw vO O hr hl hz k IH D x aa w M vI hk hD hx ha h hM hS)
 obtain ⟨hp1, hp2⟩ := preL_few D.length D rfl hD
 have hahs : ahead.size ≤ 256 := by rw [Lib.size_eq, hah]; omega
 obtain ⟨c0, c1, c2⟩ := h.cells
 have HW := Lib.hid h; have HAH := Lib.hid hah; have HM := Lib.hid hM; have HS := Lib.hid hS
 obtain ⟨dp, hdp⟩ : ∃ dp, dp = preL D := ⟨_, rfl⟩
 rw [← hdp] at CE HAH ⊢
 clear h hr hz IH hk hD hah hM hS hp1 hp2 hdp
 go_enter Tryz.func25, Tryz.ntmps25
 go_wp2_with fail
 with_reducible refine CL.out.mono ?_
 rintro e w1 (⟨n, pv, ev, hok, rfl, hpv, hev, hb1⟩ | ⟨kk, s', hbad, hkk, rfl, hb1⟩)
 ·have HW1 := Lib.hid (HW.out.stays hb1)
  have HB1 := Lib.hid hb1
  obtain ⟨hml, a2, cap2, hv2, _, _⟩ := hev.is
  have hmm0 : n.es.length ≤ 9223372036854775807 := by unfold maxLen at hml; omega
  obtain ⟨_, a1, cap1, hv1, _, _⟩ := hpv.is
  have HP := Lib.hid hev
  have HE := Lib.hid (dirE_ok (k := k) (dp := dp) (out := M0) hok)
  obtain ⟨hfit, hkd⟩ := load_fit hok
  have HOKE := Lib.hid (ents_okEn hfit hkd)
  clear hpv hev hb1 hok hfit hkd
  obtain ⟨z1, hz1⟩ : ∃ z, z = n.ps.length := ⟨_, rfl⟩
  obtain ⟨z2, hz2⟩ : ∃ z, z = n.es.length := ⟨_, rfl⟩
  rw [← hz1] at hv1; rw [← hz2] at hv2
  have HZ2 := Lib.hid hz2
  have hmm : z2 ≤ 9223372036854775807 := by omega
  clear hz1 hz2 hmm0 hml
  subst hv1 hv2
  have hb2 : Below w1.heap.size w1 (w1.alloc (.cells #[.int .i64 n.kd, .string n.d, .slice a1 z1 cap1, .slice a2 z2 cap2] 71)) := (Below.refl _ _).alloc (Nat.le_refl _) _
  have HL0 : Hid (DirL W0 Bw vO O w1 k dp n.es M0 0 M0 vI (w1.alloc (.cells #[.int .i64 n.kd, .string n.d, .slice a1 z1 cap1, .slice a2 z2 cap2] 71))) := Lib.hid
   ⟨rfl, HW1.out.stays hb2, HM.out, HS.out, Wk.of_below hb2⟩
  have HPA := Lib.hid (owns_apart (show w1.ownsRow w.heap.size 89 4 (.slice a2 z2 cap2) n.es.length (enCells n.es) from HP.out) HW1.out.row (by decide))
  clear hb2 c0 c1 c2
  go_wp2_with fail
  go_loopw [27] (fun i wr => ∃ (j : Nat) (M : List It) (vI : Value), j ≤ z2 ∧ i = .int .i64 j ∧ DirL W0 Bw vO O w1 k dp n.es M0 j M vI wr) (fun i _ => z2 - (intOf i).toNat)
  case atStart => exact ⟨0, M0, vI, Nat.zero_le _, rfl, HL0.out⟩
  case round =>
   obtain ⟨j, M, vI, hj, rfl, hL⟩ := hrel
   have HL := Lib.hid hL
   clear hL
   by_cases hlt : j < z2
   ·have hjp : j < n.es.length := by have := HZ2.out; omega
    have hown := HL.out.wk.ents HP.out HPA.out
    obtain ⟨_, _, _, hev, _, hc⟩ := hown.is
    cases hev
    obtain ⟨b, off, rfl, hbl, g⟩ := hc (by omega)
    obtain ⟨u0, u1, u2, u3⟩ := g j hjp
    have HST := Lib.hid (ents_step (f := entLE O k dp) (out := M) hjp)
    have hox := HOKE.out _ (List.getElem_mem hjp)
    obtain ⟨x, hx⟩ : ∃ x, x = n.es[j] := ⟨_, rfl⟩
    rw [← hx] at u0 u1 u2 u3 HST hox
    have HOX := Lib.hid hox
    have hnm : x.m.size ≤ 31 := by
     unfold okEn at hox; simp at hox
     rw [Lib.size_eq]; exact (nameB_iff.1 hox.1.1).2.1
    clear hx g hc hown hox
    have hbk : decide ((j : Int) < (n.es.length : Int)) = true := by simpa using (show (j : Int) < n.es.length by omega)
    have hbz := (Below.refl wr.heap.size wr).alloc (Nat.le_refl _) (.cells #[.string x.m, .int .i64 x.kd, .bool x.x, .string x.k] 89)
    have HWZ := Lib.hid (HL.out.wlk.stays hbz)
    have HKZ := Lib.hid (HL.out.wk.step hbz)
    have hng : ¬ (9223372036854775807 : Int) < (ahead.size : Int) + (x.m.size : Int) := by omega
    have CE2 := Lib.hid (CE.out x (ahead ++ x.m) _ M vI HOX.out (by rw [← HAH.out]; simp) HWZ.out HL.out.many HL.out.size)
    clear hbz
    go_wp2_with fail
    refine CE2.out.mono ?_
    rintro e w4 (⟨M', vJ, hre, rfl, hw4, hl4, hs4, hk4⟩ | ⟨kk, y, hre, hkk, rfl, hk4⟩)
    ·have HRE : Hid (entsE (entLE O k dp) (n.es.drop (j + 1)) M' = entsE (entLE O k dp) n.es M0) := Lib.hid (by rw [← HL.out.ents, HST.out, hre])
     have HL4 : Hid (DirL W0 Bw vO O w1 k dp n.es M0 (j + 1) M' vJ w4) := Lib.hid ⟨HRE.out, hw4, hl4, hs4, HKZ.out.trans hk4⟩
     clear hre hw4 hk4 hl4 hs4 u0 u1 u2 u3
     go_wp2
     go_roundw
     case rel => exact ⟨j + 1, M', vJ, by omega, by go_num, HL4.out⟩
     case measure => simp [intOf]; omega
    ·have HRE : Hid (entsE (entLE O k dp) n.es M0 = .error kk) := Lib.hid (by rw [← HL.out.ents, HST.out, hre])
     have HKK := Lib.hid hkk; have HK4 := Lib.hid (HKZ.out.trans hk4)
     clear hre hkk hk4 u0 u1 u2 u3
     go_wp2
     go_ret
     exact .inr ⟨kk, y, HE.out.trans HRE.out, HKK.out, rfl, (Wk.of_below HB1.out).trans HK4.out⟩
   ·obtain rfl : j = z2 := by omega
    have hdone : entsE (entLE O k dp) n.es M0 = .ok M := by
     rw [← HL.out.ents, List.drop_of_length_le (by have := HZ2.out; omega)]; rfl
    have HD := Lib.hid (HE.out.trans hdone)
    have hbk : decide ((j : Int) < (j : Int)) = false := by simp
    clear hdone
    go_wp2
    go_ret
    exact .inl ⟨M, vI, HD.out, rfl, HL.out.wlk, HL.out.many, HL.out.size, (Wk.of_below HB1.out).trans HL.out.wk⟩
 ·have HB1 := Lib.hid hb1
  have HE := Lib.hid (dirE_bad (k := k) (dp := dp) (out := M0) hbad)
  have HK := Lib.hid hkk
  clear hbad hkk hb1 c0 c1 c2
  have HBA := Lib.hid ((Below.refl w1.heap.size w1).alloc (Nat.le_refl _) (.cells #[.int .i64 0, .string ⟨#[]⟩, .slice none 0 0, .slice none 0 0] 71))
  go_wp2
  go_ret
  exact .inr ⟨kk, s', HE.out, HK.out, rfl, Wk.of_below (below_step HB1.out HBA.out)⟩
theorem fdir_any (W0 : World) (Bw : Nat) (vO : Value) (O : List Ob) (hr : RiseO O) (hl : O.length ≤ 1000000) (hz : ∀ y ∈ O, y.r.size ≤ 1000000) : ∀ k, DirFAt W0 Bw vO O k
 | 0 => fdir_step W0 Bw vO O hr hl hz 0 trivial
 | k + 1 => fdir_step W0 Bw vO O hr hl hz (k + 1) (fdir_any W0 Bw vO O hr hl hz k)
def RetTree (r : Except Int (List It)) (w : World) (e : Ending) (w' : World) : Prop :=
 ∃ v M k, e = .returned (.tuple #[v, .int .i64 k]) ∧ OwnI w.heap.size w' v M ∧ Below w.heap.size w w' ∧ (r = .ok M ∧ k = 0 ∨ r = .error k ∧ M = [] ∧ k ∈ wrongs)
set_option maxRecDepth 100000 in
set_option maxHeartbeats 8000000 in
theorem Tree_any (vO : Value) (O : List Ob) (key : ByteArray) (w : World) (h : IsObs w vO O) (hr : RiseO O) (hl : O.length ≤ 1000000) (hz : ∀ y ∈ O, y.r.size ≤ 1000000) (hT : ErrT w) :
  Calls Tryz.prog 10 #[vO, .string key] w (RetTree (treeE O key.data.toList) w) := by
 obtain ⟨V, hV⟩ : ∃ V, V = w.alloc (.cells #[vO, .slice none 0 0, .int .i64 0] 57) := ⟨_, rfl⟩
 have hbV : Below w.heap.size w V := by rw [hV]; exact (Below.refl _ _).alloc (Nat.le_refl _) _
 have HWV : Hid (Wlk w w.heap.size vO O V [] (sizeT []) (.slice none 0 0)) := Lib.hid
  ⟨by rw [hV]; exact Row.made _ _ _, h, ownI_nil _ _, Nat.le_refl _, hbV, hT⟩
 have CD := Lib.hid (fdir_any w w.heap.size vO O hr hl hz 8 [] ⟨#[]⟩ key V [] (.slice none 0 0) rfl (fun n hn => by cases hn) rfl HWV.out (by decide) (by decide))
 have HB := Lib.hid hbV; have HV := Lib.hid hV
 obtain ⟨_, oa, oc, rfl, _, _⟩ := h
 clear hbV hV hr hl hz hT
 go_enter Tryz.func10, Tryz.ntmps10
 go_wp2_with fail
 rw [← HV.out]
 refine CD.out.mono ?_
 rintro e w4 (⟨M, vJ, hre, rfl, hw4, hl4, hs4, hk4⟩ | ⟨kk, y, hre, hkk, rfl, hk4⟩)
 ·have HRE := Lib.hid (show treeE O key.data.toList = .ok M from hre)
  have HW4 := Lib.hid hw4
  obtain ⟨_, c1, _⟩ := hw4.cells
  clear hre hw4 hk4 hl4 hs4
  go_wp2
  go_ret2
  exact ⟨_, M, 0, rfl, HW4.out.items, HW4.out.below, .inl ⟨HRE.out, rfl⟩⟩
 ·have HRE := Lib.hid (show treeE O key.data.toList = .error kk from hre)
  have HB4 := Lib.hid (hk4.below HB.out HB.out.size (Nat.le_refl _))
  have CN := Lib.hid (fnumber_any y kk hkk w4)
  have HKK := Lib.hid hkk
  clear hre hk4 hkk
  go_wp2_with fail
  with_reducible refine CN.out.mono ?_
  rintro e w5 ⟨rfl, hb5⟩
  have HB5 := Lib.hid (below_step HB4.out hb5)
  clear hb5
  go_wp2
  go_ret2
  exact ⟨_, [], kk, rfl, World.ownsRow_nil _ _ _ _, HB5.out, .inr ⟨HRE.out, rfl, HKK.out⟩⟩
end Go.Proofs.YtjpjpmkadoaipaaGreatDoor
set_option linter.unusedVariables false
namespace Go.Proofs.YtjpjpmkadoaipaaGreatDoor
open Go Go.RowKit Go.Maps Go.Sort
attribute [local go_sem] Oper.semAt_some
theorem calls_own {f : FuncId} {args : Array Value} {wz w : World} {M : List Txt} (hs : wz.heap.size ≤ w.heap.size) (h : Calls Tryz.prog f args w (RetOwn w M)) : Calls Tryz.prog f args w fun e w' => ∃ u, e = .returned u ∧ (OwnTxt wz w' u M ∧ Below w.heap.size w w') :=
 h.mono fun e w' ⟨v, h1, h2, h3⟩ => ⟨v, h1, h2.low_Ned hs, h3⟩
theorem RetLd.of_ok {n : Nd} {w w' : World} {e : Ending} (h : RetLd (.ok n) w e w') : ∃ pv ev, e = .returned (.tuple #[ndV n pv ev, .nilIface]) ∧ OwnP w.heap.size w' pv n.ps ∧ OwnE w.heap.size w' ev n.es ∧ Below w.heap.size w w' := by
 rcases h with ⟨m, pv, ev, h1, h2, h3, h4, h5⟩ | ⟨k, s, h1, _⟩
 ·cases h1; exact ⟨pv, ev, h2, h3, h4, h5⟩
 ·cases h1
theorem RetLd.of_err {k : Int} {w w' : World} {e : Ending} (h : RetLd (.error k) w e w') : ∃ s, e = .returned (.tuple #[zeroNV, faultV s k]) ∧ Below w.heap.size w w' := by
 rcases h with ⟨m, pv, ev, h1, _⟩ | ⟨k', s, h1, h2, h3, h4⟩
 ·cases h1
 ·cases h1; exact ⟨s, h3, h4⟩
section
variable {w W1 X Y : World} {b : Nat} {vO : Value} {O : List Ob} {F P Q : List Txt}
end
end Go.Proofs.YtjpjpmkadoaipaaGreatDoor
set_option linter.unusedVariables false
namespace Go.Proofs.YtjpjpmkadoaipaaGreatDoor
open Go Go.RowKit
attribute [local go_sem] Oper.semAt_some
def okSum (x : Ob) : Bool := decide (shaSum x.u = x.t)
def checkB (L : List Ob) : Bool := L.all okSum
theorem all_take {L : List Ob} {p : Ob → Bool} {k : Nat} (hk : k < L.length) (h : (L.take k).all p = true) : (L.take (k + 1)).all p = p L[k] := by
 rw [List.take_succ_eq_append_getElem hk, List.all_append, h]; simp
theorem all_no {L : List Ob} {p : Ob → Bool} {k : Nat} (hk : k < L.length) (h : p L[k] = false) : L.all p = false := by
 cases e : L.all p with
 | false => rfl
 | true => rw [List.all_eq_true.1 e _ (List.getElem_mem hk)] at h; cases h
set_option maxRecDepth 100000 in
set_option maxHeartbeats 4000000 in
theorem Check_any (v : Value) (L : List Ob) (w : World) (h : IsObs w v L) (hz : ∀ x ∈ L, x.r.size ≤ 1152921504606846976) :
  Calls Tryz.prog 23 #[v] w fun e w' => e = .returned (.bool (checkB L)) ∧ Below w.heap.size w w' := by
 have HI := Lib.hid h; have HZ := Lib.hid hz
 obtain ⟨hml, a, cap, hv, _, _⟩ := h
 have hmm0 : L.length ≤ 9223372036854775807 := by unfold maxLen at hml; omega
 obtain ⟨z, hzl⟩ : ∃ z, z = L.length := ⟨_, rfl⟩
 rw [← hzl] at hv hmm0
 have HZL := Lib.hid hzl
 clear hml hzl hz
 subst hv
 go_enter Tryz.func23, Tryz.ntmps23
 go_wp2_with fail
 go_loopw [7] (fun i wr => ∃ k : Nat, k ≤ z ∧ i = .int .i64 k ∧ (L.take k).all okSum = true ∧ Below w.heap.size w wr) (fun i _ => z - (intOf i).toNat)
 case atStart => exact ⟨0, Nat.zero_le _, rfl, by simp, Below.refl _ _⟩
 case round =>
  obtain ⟨k, hk, rfl, hA, hB⟩ := hrel
  have HA := Lib.hid hA; have HB := Lib.hid hB
  by_cases hlt : k < z
  ·have hkl : k < L.length := by have := HZL.out; omega
   obtain ⟨_, _, _, hev, _, hc⟩ := HI.out.stays hB
   rw [← HZL.out] at hev
   cases hev
   obtain ⟨b, off, rfl, hbl, g⟩ := hc (by omega)
   obtain ⟨u0, u1⟩ := g k hkl
   have HNO := Lib.hid (all_no (p := okSum) hkl)
   have HST := Lib.hid (all_take hkl hA)
   have hzx := HZ.out _ (List.getElem_mem hkl)
   obtain ⟨x, hx⟩ : ∃ x, x = L[k] := ⟨_, rfl⟩
   rw [← hx] at u0 u1 HNO HST hzx
   have CS := Lib.hid (fun W => Sum_any x.r hzx W)
   obtain ⟨s, hs⟩ : ∃ s : ByteArray, s = ⟨(shaSum x.r.data.toList).toArray⟩ := ⟨_, rfl⟩
   rw [← hs] at CS
   have hbk : decide ((k : Int) < (z : Int)) = true := by simpa using (show (k : Int) < z by omega)
   obtain ⟨W, hW⟩ : ∃ W, W = wr.alloc (.cells #[.string x.k, .string x.r] 43) := ⟨_, rfl⟩
   have hbW : Below wr.heap.size wr W := by rw [hW]; exact (Below.refl _ _).alloc (Nat.le_refl _) _
   have hrow : Row W wr.heap.size #[.string x.k, .string x.r] 43 := by rw [hW]; exact Row.made _ _ _
   have c0 : W.cell? ⟨wr.heap.size, 0, none⟩ = some (.string x.k) := hrow.cell 0
   have c1 : W.cell? ⟨wr.heap.size, 1, none⟩ = some (.string x.r) := hrow.cell 1
   have k0 := fun d os => cell_regrown c0 d os
   have k1 := fun d os => cell_regrown c1 d os
   have HBW := Lib.hid (below_step HB.out hbW)
   have HW := Lib.hid hW
   clear g hc hx hA hB hbW hrow hW hzx
   by_cases he : s = x.k
   ·have q1 := beq_true he
    have q2 : (s.toList != x.k.toList) = false := by simp [bne, q1]
    have HOK : Hid (okSum x = true) := Lib.hid (decide_eq_true (by
     rw [hs] at he
     exact (txt_ne.1 he)))
    clear he hs
    go_wp2_with fail
    rw [← HW.out]
    refine wp_region_quiet_below (by kernel_rfl) (by kernel_rfl) ?_
    repeat (first | go_big_quiet_step (exact Calls.regrown_of (CS.out _)) | quiet_step (exact Calls.regrown_of (CS.out _)))
    refine wpQuiet_nil ?_
    intro wq hwq
    have hbq : Below W.heap.size W wq := by obtain ⟨p, rfl⟩ := hwq; exact below_regrown _ _ _
    clear hwq k0 k1 c0 c1
    have HBQ := Lib.hid (below_step HBW.out hbq)
    clear hbq
    go_wp2
    go_roundw
    case rel => exact ⟨k + 1, by omega, by go_num, by rw [HST.out]; exact HOK.out, HBQ.out⟩
    case measure => simp [intOf]; omega
   ·obtain ⟨q1, q2⟩ := str_ne_Fgd he
    have HOK : Hid (okSum x = false) := Lib.hid (decide_eq_false (fun e => he (by rw [hs]; exact txt_ne.2 e)))
    clear he hs
    go_wp2_with fail
    rw [← HW.out]
    refine wp_region_quiet_below (by kernel_rfl) (by kernel_rfl) ?_
    repeat (first | go_big_quiet_step (exact Calls.regrown_of (CS.out _)) | quiet_step (exact Calls.regrown_of (CS.out _)))
    refine wpQuiet_nil ?_
    intro wq hwq
    have hbq : Below W.heap.size W wq := by obtain ⟨p, rfl⟩ := hwq; exact below_regrown _ _ _
    clear hwq k0 k1 c0 c1
    have HBQ := Lib.hid (below_step HBW.out hbq)
    clear hbq
    go_wp2
    go_ret
    exact ⟨by unfold checkB; rw [HNO.out HOK.out]; rfl, HBQ.out⟩
  ·obtain rfl : k = z := by omega
   have hbk : decide ((k : Int) < (k : Int)) = false := by simp
   have hall : L.all okSum = true := by rw [List.take_of_length_le (by have := HZL.out; omega)] at hA; exact hA
   have HALL := Lib.hid hall
   clear hA hB hall
   go_wp2
   go_ret
   exact ⟨by unfold checkB; rw [HALL.out]; rfl, HB.out⟩
end Go.Proofs.YtjpjpmkadoaipaaGreatDoor
set_option linter.unusedVariables false
namespace Go.Proofs.YtjpjpmkadoaipaaGreatDoor
open Go.RowKit
attribute [local go_sem] Oper.semAt_some
theorem RetTree.of_ok {M : List It} {w w' : World} {e : Ending} (h : RetTree (.ok M) w e w') : ∃ v, e = .returned (.tuple #[v, .int .i64 0]) ∧ OwnI w.heap.size w' v M ∧ Below w.heap.size w w' := by
 obtain ⟨v, M', k, h1, h2, h3, ⟨h4, h5⟩ | ⟨h4, _⟩⟩ := h
 ·cases h4; subst h5; exact ⟨v, h1, h2, h3⟩
 ·cases h4
theorem RetTree.of_err {k : Int} {w w' : World} {e : Ending} (h : RetTree (.error k) w e w') : ∃ v, e = .returned (.tuple #[v, .int .i64 k]) ∧ OwnI w.heap.size w' v [] ∧ k ∈ wrongs ∧ Below w.heap.size w w' := by
 obtain ⟨v, M', k', h1, h2, h3, ⟨h4, h5⟩ | ⟨h4, h5, h6⟩⟩ := h
 ·cases h4
 ·cases h4; subst h5; exact ⟨v, h1, h2, h6, h3⟩
theorem fit248_Fgn : FitAt (2 : Nat) (4 : Nat) (8 : Nat) 2 := ⟨by decide, by decide, by decide, by decide, by decide, by decide, by decide⟩
def nilN_Fgn : Nd := ⟨3, ⟨#[]⟩, [], []⟩
theorem nilN_fit_Fgn : fitN nilN_Fgn = true := by decide +kernel
theorem rdy_nil_Fgn (c : List UInt8 → Nat) (h : ∃ mn mx, CutOk mn mx c ∧ mx ≤ 4096) : ReadyT c [] :=
 ⟨⟨Nat.zero_le _, List.Pairwise.nil, fun _ h => (by cases h), fun _ h => (by cases h), fun _ h => (by cases h), fun _ h => (by cases h), by decide⟩, h, fun _ h => (by cases h)⟩
theorem seq_nil_Fgn (c : List UInt8 → Nat) : seqT c [] = [nilN_Fgn] := rfl
theorem top_nil_Fgn (c : List UInt8 → Nat) : topT c [] = nilN_Fgn := rfl
theorem objs_nil_Fgn (c : List UInt8 → Nat) : objsT c [] = [obN nilN_Fgn] := by
  have h : (obN nilN_Fgn).t.length = 32 := by rw [obN_t]; exact keyN_len nilN_fit_Fgn
  show addO [] (obN nilN_Fgn) = _
  unfold addO
  rw [if_neg (by intro e; rcases e with e | e; · cases e
                 · exact e h)]
  rfl
theorem has_nil_Fgn : HasN [obN nilN_Fgn] nilN_Fgn := ⟨obN nilN_Fgn, by
 unfold getO
 rw [List.find?_cons_of_pos]
 exact decide_eq_true (obN_t _), obN_u _⟩
theorem treeE_key {O : List Ob} {key : List UInt8} (h : getO O key = none) : treeE O key = .error 5 := by
 unfold treeE
 exact dirE_bad (by unfold loadE; rw [h])
theorem get_none {O : List Ob} (h : FitO O) {t : List UInt8} (ht : t.length ≠ 32) : getO O t = none := by
 cases e : getO O t with
 | none => rfl
 | some y =>
  obtain ⟨h1, h2⟩ := (getO_some h.1).1 e
  exact absurd (by rw [← h2]; exact h.2 y h1) ht
theorem check_nil_Fgn : checkB [obN nilN_Fgn] = true := by
 unfold checkB okSum
 simp only [List.all_cons, List.all_nil, Bool.and_true]
 refine decide_eq_true ?_
 rw [obN_u, obN_t, keyN_fit nilN_fit_Fgn, wrN_fit nilN_fit_Fgn]
theorem ex_build_Fgn (w : World) : Calls Tryz.prog 9 #[pV 2 4 8, .slice none 0 0] w fun e w' => ∃ (a : Option Addr) (cap : Nat), e = .returned (.tuple #[.string ⟨(keyN nilN_Fgn).toArray⟩, .slice a 1 cap]) ∧ IsObs w' (.slice a 1 cap) [obN nilN_Fgn] ∧ Below w.heap.size w w' := by
 refine (rBuild_any 2 4 2 8 fit248_Fgn (.slice none 0 0) [] w (isItems_nil _) (fun _ h => by cases h) (fun _ h => by cases h) (by decide) (by rw [seq_nil_Fgn]; decide)).mono ?_
 rintro e w' ⟨v, rfl, hv, hb⟩
 rw [objs_nil_Fgn] at hv
 obtain ⟨_, a, cap, hve, _⟩ := id hv
 have hve' : v = .slice a 1 cap := hve
 subst hve'
 exact ⟨a, cap, rfl, hv, hb⟩
set_option maxRecDepth 100000 in
set_option maxHeartbeats 2000000 in
theorem awake13_any (w : World) (hT : ErrT w) : Calls Tryz.prog 8 #[] w fun e w' => e = .returned (.bool true) ∧ Below w.heap.size w w' := by
 have ER := Lib.hid (ex_build_Fgn w)
 have HT := Lib.hid hT
 have hfit : FitO [obN nilN_Fgn] := ⟨by simp [RiseO], fun x hx => by rw [List.mem_singleton.1 hx, obN_t]; exact keyN_len nilN_fit_Fgn⟩
 have HR := Lib.hid hfit.1
 have hzz : ∀ y ∈ [obN nilN_Fgn], y.r.size ≤ 1000000 := fun y hy => by
  rw [List.mem_singleton.1 hy, Lib.size_eq]
  have : (obN nilN_Fgn).r.data.toList = wrN nilN_Fgn := obN_u _
  rw [this]; decide +kernel
 have HZ := Lib.hid hzz
 obtain ⟨O, hO⟩ : ∃ O, O = [obN nilN_Fgn] := ⟨_, rfl⟩
 have HOK : Hid (treeE O (keyN nilN_Fgn) = .ok []) := Lib.hid (by
  rw [hO]
  have h := tree_ok (c := cutN 2 2 8) (rdy_nil_Fgn _ (cut_fit fit248_Fgn)) (O := [obN nilN_Fgn]) (fun n hn => by rw [seq_nil_Fgn] at hn; rw [List.mem_singleton.1 hn]; exact has_nil_Fgn)
  rwa [top_nil_Fgn] at h)
 have HNO : Hid (treeE O [111, 116, 104, 101, 114] = .error 5) := Lib.hid (by rw [hO]; exact treeE_key (get_none hfit (by decide)))
 have HCK : Hid (checkB O = true) := Lib.hid (by rw [hO]; exact check_nil_Fgn)
 have HL : Hid (O.length = 1) := Lib.hid (by rw [hO]; rfl)
 rw [← hO] at ER HR HZ
 clear hT hfit hzz hO
 obtain ⟨K, hK⟩ : ∃ K : ByteArray, K = ⟨(keyN nilN_Fgn).toArray⟩ := ⟨_, rfl⟩
 have HK : Hid (K.data.toList = keyN nilN_Fgn) := Lib.hid (by rw [hK])
 rw [← hK] at ER
 clear hK
 go_enter Tryz.func8, Tryz.ntmps8
 go_wp2_with fail
 refine ER.out.mono ?_
 rintro e w1 ⟨a, cap, rfl, ho, hb⟩
 have HB1 := Lib.hid hb; have HO1 := Lib.hid ho
 have T1 := Lib.hid ((Tree_any (.slice a 1 cap) O K w1 ho HR.out (by rw [HL.out]; decide) HZ.out (HT.out.stays hb)).mono fun e w' h => by rw [HK.out, HOK.out] at h; exact h.of_ok)
 clear ho hb
 go_wp2_with fail
 refine T1.out.mono ?_
 rintro e w2 ⟨v2, rfl, ho2, hb2⟩
 have HB2 := Lib.hid (below_step HB1.out hb2)
 have T2 := Lib.hid ((Tree_any (.slice a 1 cap) O ⟨#[111, 116, 104, 101, 114]⟩ w2 (HO1.out.stays hb2) HR.out (by rw [HL.out]; decide) HZ.out (HT.out.stays HB2.out)).mono fun e w' h => by rw [show (⟨#[111, 116, 104, 101, 114]⟩ : ByteArray).data.toList = [111, 116, 104, 101, 114] from rfl, HNO.out] at h; exact h.of_err)
 have HO2 := Lib.hid (HO1.out.stays hb2)
 obtain ⟨_, a2, c2, hv2, _, _⟩ := ho2.items
 have hv2' : v2 = .slice a2 0 c2 := hv2
 subst hv2'
 clear ho2 hb2 hv2
 go_wp2_with fail
 refine T2.out.mono ?_
 rintro e w3 ⟨v3, rfl, _, _, hb3⟩
 have HB3 := Lib.hid (below_step HB2.out hb3)
 have CK := Lib.hid (Check_any (.slice a 1 cap) O w3 (HO2.out.stays hb3) (fun x hx => Nat.le_trans (HZ.out x hx) (by decide)))
 rw [HCK.out] at CK
 clear hb3
 go_wp2_with fail
 refine CK.out.mono ?_
 rintro e w4 ⟨rfl, hb4⟩
 have HB4 := Lib.hid (below_step HB3.out hb4)
 clear hb4
 go_wp2
 go_ret
 exact ⟨rfl, HB4.out⟩
def OneF (w0 : World) (mn av mx : Int) (W : World) : Prop := Row W w0.heap.size #[.int .i64 mn, .int .i64 av, .int .i64 mx] 23 ∧ Below w0.heap.size w0 W
theorem OneF.on {w0 W W' : World} {mn av mx : Int} (h : OneF w0 mn av mx W) (hb : Below W.heap.size W W') : OneF w0 mn av mx W' := ⟨h.1.step hb, below_step h.2 hb⟩
theorem OneF.cells {w0 W : World} {mn av mx : Int} (h : OneF w0 mn av mx W) : W.cell? ⟨w0.heap.size, 0, none⟩ = some (.int .i64 mn) ∧ W.cell? ⟨w0.heap.size, 1, none⟩ = some (.int .i64 av) ∧ W.cell? ⟨w0.heap.size, 2, none⟩ = some (.int .i64 mx) := by
 have g0 := h.1.cell 0; have g1 := h.1.cell 1; have g2 := h.1.cell 2
 simp only [List.getElem?_toArray, List.getElem?_cons_zero, List.getElem?_cons_succ] at g0 g1 g2
 exact ⟨g0, g1, g2⟩
theorem oneF_new (w0 : World) (mn av mx : Int) : OneF w0 mn av mx (w0.alloc (.cells #[.int .i64 mn, .int .i64 av, .int .i64 mx] 23)) := ⟨Row.made _ _ _, (Below.refl _ _).alloc (Nat.le_refl _) _⟩
structure FewF (m a b x : Nat) (I : List It) : Prop where
 fit : FitAt m a x b
 rdy : ReadyT (cutN m b x) I
 p400 : ∀ y ∈ I, y.p.size ≤ 400
 len : I.length ≤ 70
theorem fewF_at {mn av mx : Int} {I : List It} (h : fewTB mn av mx I = true) : ∃ m a b x : Nat, mn = m ∧ av = a ∧ mx = x ∧ FewF m a b x I := by
 obtain ⟨h70, _, h400, m, a, x, b, h1, h2, h3, hF, hR⟩ := fewTB_iff.1 h
 exact ⟨m, a, b, x, h1, h2, h3, hF, hR, h400, h70⟩
section
variable {m a b x : Nat} {I : List It}
theorem FewF.hs (h : FewF m a b x I) : ∀ y ∈ I, y.p.size ≤ 100000 ∧ y.c.size ≤ 100000 := fun y hy =>
 ⟨Nat.le_trans (h.p400 y hy) (by decide), Nat.le_trans (h.rdy.fit.data y hy) (by decide)⟩
theorem FewF.sl (h : FewF m a b x I) : (seqT (cutN m b x) I).length ≤ 70000 := seqT_len h.rdy
theorem FewF.rBuild (h : FewF m a b x I) {iv : Value} {w : World} (hi : IsItems w iv I) :
  Calls Tryz.prog 9 #[pV m a x, iv] w (RetKO (keyN (topT (cutN m b x) I)) (objsT (cutN m b x) I) w) :=
 rBuild_any m a b x h.fit iv I w hi h.rdy.fit.path h.hs (Nat.le_trans h.len (by decide)) (Nat.le_trans h.sl (by decide))
theorem FewF.rise (h : FewF m a b x I) : RiseO (objsT (cutN m b x) I) := (objs_fit _ _).1
theorem FewF.many (h : FewF m a b x I) : (objsT (cutN m b x) I).length ≤ 70000 := by
 have h1 := (putsN_len [] (seqT (cutN m b x) I)).2
 have := h.sl
 have h2 : (objsT (cutN m b x) I).length ≤ ([] : List Ob).length + (seqT (cutN m b x) I).length := h1
 simp at h2; omega
theorem FewF.bytes (h : FewF m a b x I) : ∀ y ∈ objsT (cutN m b x) I, y.r.size ≤ 60000 := fun y hy => by
 obtain ⟨n, hn, rfl⟩ := objs_mem hy
 have hf := seqT_fit h.rdy n hn
 have := wrL_len hf
 rw [Lib.size_eq]
 have e : (obN n).r.data.toList = wrN n := obN_u n
 rw [e, wrN_fit hf]; omega
theorem rawsF_few (h : FewF m a b x I) : (rawsT (cutN m b x) I).length ≤ 70000 ∧ ∀ t ∈ rawsT (cutN m b x) I, t.length ≤ 60000 := by
 refine ⟨by unfold rawsT; rw [List.length_map]; exact seqT_len h.rdy, fun t ht => ?_⟩
 obtain ⟨n, hn, rfl⟩ := List.mem_map.1 ht
 have := wrL_len (seqT_fit h.rdy n hn)
 unfold wrN; rw [if_pos (seqT_fit h.rdy n hn)]; omega
theorem FewF.raws (h : FewF m a b x I) {iv : Value} {w : World} (hi : IsItems w iv I) : Calls Tryz.prog 13 #[pV m a x, iv] w (RetOwn w (rawsT (cutN m b x) I)) := by
 refine (rRaws_any m a b x h.fit iv I w hi h.rdy h.hs).mono ?_
 rintro e w' ⟨v', rfl, ho, hb⟩
 exact ⟨v', rfl, ho, hb⟩
theorem clashF_txt {V : World} (T : List (List UInt8)) (hs : ∀ t ∈ T, t.length ≤ 60000) (hT : T.length ≤ 600000) (v : Value) (w : World) (h : OwnTxt V w v T) :
  Calls Tryz.prog 12 #[v] w fun e w' => e = .returned (.bool (clashB T)) ∧ Below w.heap.size w w' := by
 have := rClash_any v (strsOf T) w h.strs (fun y hy => by
  obtain ⟨t, ht, rfl⟩ := List.mem_map.1 hy
  rw [Lib.size_eq]; exact hs t ht) (by rw [strsOf_len]; exact hT)
 rwa [txts_strsOf] at this
end
end Go.Proofs.YtjpjpmkadoaipaaGreatDoor
set_option linter.unusedVariables false
namespace Go.Proofs.YtjpjpmkadoaipaaGreatDoor
def spoilO (y : Ob) : Ob := ⟨y.k, y.r ++ ⟨#[120]⟩⟩
def stepL (i : Nat) (bad : Bool) (j : Nat) (y : Ob) : List Ob := if j = i then (if bad = true then [spoilO y] else []) else [y]
def lessL (i : Nat) (bad : Bool) : List Ob → Nat → List Ob
 | [], _ => []
 | y :: L, j => stepL i bad j y ++ lessL i bad L (j + 1)
theorem lessL_snoc {i : Nat} {bad : Bool} : ∀ (L : List Ob) (j : Nat) (y : Ob), lessL i bad (L ++ [y]) j = lessL i bad L j ++ stepL i bad (j + L.length) y
 | [], j, y => by simp [lessL]
 | x :: L, j, y => by
  show stepL i bad j x ++ lessL i bad (L ++ [y]) (j + 1) = _
  rw [lessL_snoc L (j + 1) y]
  show _ = stepL i bad j x ++ lessL i bad L (j + 1) ++ _
  rw [List.append_assoc, List.length_cons, show j + 1 + L.length = j + (L.length + 1) by omega]
theorem lessL_take {i : Nat} {bad : Bool} {O : List Ob} {k : Nat} (hk : k < O.length) : lessL i bad (O.take (k + 1)) 0 = lessL i bad (O.take k) 0 ++ stepL i bad k O[k] := by
 rw [List.take_succ_eq_append_getElem hk, lessL_snoc, List.length_take, Nat.min_eq_left (Nat.le_of_lt hk), Nat.zero_add]
theorem lessL_len {i : Nat} {bad : Bool} : ∀ (L : List Ob) (j : Nat), (lessL i bad L j).length ≤ L.length
 | [], _ => Nat.le_refl _
 | y :: L, j => by
  have h := lessL_len (i := i) (bad := bad) L (j + 1)
  show (stepL i bad j y ++ lessL i bad L (j + 1)).length ≤ _
  rw [List.length_append, List.length_cons]
  unfold stepL
  split
  ·cases bad <;> simp <;> omega
  ·simp; omega
theorem lessL_sub {i : Nat} {bad : Bool} : ∀ (L : List Ob) (j : Nat), ((lessL i bad L j).map Ob.t).Sublist (L.map Ob.t)
 | [], _ => List.Sublist.refl _
 | y :: L, j => by
  have h := lessL_sub (i := i) (bad := bad) L (j + 1)
  show ((stepL i bad j y ++ lessL i bad L (j + 1)).map Ob.t).Sublist _
  rw [List.map_append, List.map_cons]
  unfold stepL
  split
  ·cases bad
   ·exact h.cons _
   ·exact h.cons_cons (spoilO y).t
  ·exact h.cons_cons _
theorem lessL_rise {i : Nat} {bad : Bool} {L : List Ob} {j : Nat} (h : RiseO L) : RiseO (lessL i bad L j) := by
 have h1 : (L.map Ob.t).Pairwise (· < ·) := List.pairwise_map.2 h
 exact List.pairwise_map.1 (h1.sublist (lessL_sub L j))
theorem mem_lessL {i : Nat} {bad : Bool} {y : Ob} : ∀ {L : List Ob} {j : Nat}, y ∈ lessL i bad L j ↔ ∃ q, ∃ h : q < L.length, (j + q ≠ i ∧ L[q] = y) ∨ (j + q = i ∧ bad = true ∧ y = spoilO L[q])
 | [], j => by simp [lessL]
 | x :: L, j => by
  show y ∈ stepL i bad j x ++ lessL i bad L (j + 1) ↔ _
  rw [List.mem_append, mem_lessL (L := L)]
  constructor
  ·rintro (h | ⟨q, hq, h⟩)
   ·refine ⟨0, by simp, ?_⟩
    unfold stepL at h
    split at h
    ·rename_i e
     cases bad
     ·simp at h
     ·simp at h; exact .inr ⟨by omega, rfl, h⟩
    ·rename_i e
     simp at h; exact .inl ⟨by omega, h.symm⟩
   ·refine ⟨q + 1, by simpa using hq, ?_⟩
    rcases h with ⟨h1, h2⟩ | ⟨h1, h2, h3⟩
    ·exact .inl ⟨by omega, by simpa using h2⟩
    ·exact .inr ⟨by omega, h2, by simpa using h3⟩
  ·rintro ⟨q, hq, h⟩
   cases q with
   | zero =>
    left
    unfold stepL
    rcases h with ⟨h1, h2⟩ | ⟨h1, h2, h3⟩
    ·rw [if_neg (by omega)]; simp at h2; simp [h2]
    ·rw [if_pos (by omega), if_pos h2]; simp at h3; simp [h3]
   | succ q =>
    right
    refine ⟨q, by simpa using hq, ?_⟩
    rcases h with ⟨h1, h2⟩ | ⟨h1, h2, h3⟩
    ·exact .inl ⟨by omega, by simpa using h2⟩
    ·exact .inr ⟨by omega, h2, by simpa using h3⟩
theorem rise_apart {O : List Ob} (h : RiseO O) {p q : Nat} (hp : p < O.length) (hq : q < O.length) (e : O[p].t = O[q].t) : p = q := by
 rcases Nat.lt_trichotomy p q with hlt | he | hlt
 ·have := List.pairwise_iff_getElem.1 h p q hp hq hlt
  rw [e] at this; exact absurd this (t_irrefl _)
 ·exact he
 ·have := List.pairwise_iff_getElem.1 h q p hq hp hlt
  rw [e] at this; exact absurd this (t_irrefl _)
theorem clash_more {T R : List (List UInt8)} (h : ¬ Clash (T ++ R)) : ¬ Clash T := fun ⟨a, ha, b, hb, hc⟩ => h ⟨a, List.mem_append_left _ ha, b, List.mem_append_left _ hb, hc⟩
section
variable {c : List UInt8 → Nat} {L : List It}
theorem tree_more (R : ReadyT c L) {X : Ob} (hc : ¬ Clash (rawsT c L)) : treeE (addO (objsT c L) X) (keyN (topT c L)) = .ok L :=
 tree_ok R fun n hn => by
  have h := (objs_has R hc hn).2
  refine ⟨obN n, ?_, obN_u n⟩
  have := getO_add_old (objs_fit c L) X h
  rwa [obN_t] at this
theorem tree_less (R : ReadyT c L) {X : List UInt8} {i : Nat} (hi : i < (objsT c L).length) (bad : Bool) (hc : ¬ Clash (rawsT c L ++ [(objsT c L)[i].u ++ [120], X])) :
  treeE (lessL i bad (objsT c L) 0) (keyN (topT c L)) = .error (if bad = true then 11 else 5) := by
 have hc1 := clash_more hc
 have hr := (objs_fit c L).1
 have hr2 : RiseO (lessL i bad (objsT c L) 0) := lessL_rise hr
 have hst : ∀ n ∈ seqT c L, obN n = (objsT c L)[i] → BadN (lessL i bad (objsT c L) 0) (if bad = true then 11 else 5) n := by
  intro n hn e kd
  have hf := seqT_fit R n hn
  cases bad with
  | false =>
   have hg : getO (lessL i false (objsT c L) 0) (keyN n) = none := by
    cases hg : getO (lessL i false (objsT c L) 0) (keyN n) with
    | none => rfl
    | some y =>
     obtain ⟨h1, h2⟩ := (getO_some hr2).1 hg
     obtain ⟨q, hq, ⟨h3, h4⟩ | ⟨_, h3, _⟩⟩ := mem_lessL.1 h1
     ·exfalso
      refine h3 ?_
      rw [Nat.zero_add]
      refine rise_apart hr hq hi ?_
      rw [h4, h2, ← e, obN_t]
     ·cases h3
   unfold loadE
   rw [hg]; rfl
  | true =>
   have hg : getO (lessL i true (objsT c L) 0) (keyN n) = some (spoilO (obN n)) := (getO_some hr2).2 ⟨mem_lessL.2 ⟨i, hi, .inr ⟨by omega, rfl, by rw [e]⟩⟩, by
    show (obN n).t = _
    exact obN_t n⟩
   unfold loadE
   rw [hg]
   have hu : (spoilO (obN n)).u = wrN n ++ [120] := by
    have : (obN n).r.data.toList = wrN n := obN_u n
    unfold spoilO Ob.u
    simp [this]
   have hne : shaSum (spoilO (obN n)).u ≠ keyN n := fun es => by
    rw [hu, keyN_fit hf, ← wrN_fit hf] at es
    refine hc ⟨wrN n ++ [120], List.mem_append_right _ (by rw [← e, obN_u]; simp), wrN n, List.mem_append_left _ (List.mem_map.2 ⟨n, hn, rfl⟩), fun e2 => ?_, es⟩
    have := congrArg List.length e2
    simp at this
   simp only
   rw [if_neg hne]; rfl
 refine tree_bad R (fun n hn => ?_) ?_
 ·obtain ⟨q, hq, e⟩ := List.getElem_of_mem (objs_has R hc1 hn).2
  by_cases hqi : q = i
  ·subst hqi
   exact .inr (hst n hn e.symm)
  ·refine .inl ⟨obN n, (getO_some hr2).2 ⟨mem_lessL.2 ⟨q, hq, .inl ⟨by omega, e⟩⟩, obN_t n⟩, obN_u n⟩
 ·obtain ⟨n, hn, e⟩ := objs_mem (List.getElem_mem hi)
  exact ⟨n, hn, hst n hn e.symm⟩
end
end Go.Proofs.YtjpjpmkadoaipaaGreatDoor
set_option linter.unusedVariables false
namespace Go.Proofs.YtjpjpmkadoaipaaGreatDoor
open Go.RowKit
inductive Wd where
 | any
 | val (u : Value)
 | mem (P : Value → Value → World → Prop) (st : ∀ v e w w', P v e w → Below w.heap.size w w' → P v e w')
def Wd.says : Wd → Value → Value → World → Prop
 | .any => fun _ _ _ => True
 | .val u => fun v _ _ => v = u
 | .mem P _ => P
def Wd.still : Wd → Bool
 | .mem _ _ => false
 | _ => true
def wU (l : List Wd) (k : Nat) : Value → Value → World → Prop := (l.getD k .any).says
theorem Wd.below {d : Wd} {v e : Value} {w w' : World} (h : d.says v e w) (hb : Below w.heap.size w w') : d.says v e w' := by
 cases d with
 | any => exact h
 | val u => exact h
 | mem P st => exact st v e w w' h hb
theorem Wd.any_world {d : Wd} (hd : d.still = true) {v e : Value} {w w' : World} (h : d.says v e w) : d.says v e w' := by
 cases d with
 | any => exact h
 | val u => exact h
 | mem P st => cases hd
def stillB (l : List Wd) (j : Nat) (bad : List (Nat × Nat)) : Bool := (List.range l.length).all fun k => k == j || bad.contains (j, k) || (l.getD k .any).still
theorem still_at {l : List Wd} {j : Nat} {bad : List (Nat × Nat)} (h : stillB l j bad = true) {k : Nat} (hk : k ≠ j) (hb : (j, k) ∉ bad) : (l.getD k .any).still = true := by
 by_cases hl : k < l.length
 ·have := List.all_eq_true.1 h k (List.mem_range.2 hl)
  simp only [Bool.or_eq_true, beq_iff_eq, List.contains_eq_mem, decide_eq_true_eq] at this
  rcases this with (h1 | h1) | h1
  ·exact absurd h1 hk
  ·exact absurd h1 hb
  ·exact h1
 ·rw [List.getD_eq_getElem?_getD, List.getElem?_eq_none (by omega)]; rfl
theorem wU_one (l : List Wd) (j : Nat) (R : World → World → Prop) (bad : List (Nat × Nat)) (hs : stillB l j bad = true) (ix kx : Nat) (v e : Value) (w w' : World) (hne : kx ≠ ix) (hb : (ix, kx) ∉ bad) (hU : wU l kx v e w) (hT : appT j R ix w w') : wU l kx v e w' := by
 by_cases hi : ix = j
 ·subst hi
  exact Wd.any_world (still_at hs hne hb) hU
 ·exact Wd.below hU (appT_out hi hT)
end Go.Proofs.YtjpjpmkadoaipaaGreatDoor
namespace Go.Proofs.YtjpjpmkadoaipaaGreatDoor
open Go.RowKit
theorem wpList_rem {P : Program} {ops : Array Oper} {rest : List Oper} {o : Oper} {a : Act} {w : World} {Q : Exit → Act → World → Prop} (hgd : o.guard = none) (t t' : TypeId) (x y : Operand) (ho : o.op = .binOp .rem t x y t')
  (k : IntKind) (m n r : Int) (hx : a.eval x = .int k m) (hy : a.eval y = .int k n) (hn : n ≠ 0) (hr : m.tmod n = r) (h : wpList P ops Q rest (a.put o.dst (.int k r)) w) : wpList P ops Q (o :: rest) a w :=
 wpList_plain hgd fun _ hK => by
  unfold Oper.wp execOp
  simp only [ho, hx, hy]
  simp [binOp_rem, Op.intDiv, hn, hr, go_sem]
  exact hK _ _ h
end Go.Proofs.YtjpjpmkadoaipaaGreatDoor
set_option linter.unusedVariables false
namespace Go.Proofs.YtjpjpmkadoaipaaGreatDoor
open Go.RowKit
attribute [local go_sem] Oper.semAt_some
theorem wp_append_strs_Fgs {P : Program} {w : World} {o : Oper} {a : Act} {K : Act → World → Prop} {Q : Exit → Act → World → Prop} (s x : Operand) (t : TypeId)
  (ho : o.op = .call { callee := .builtin .append, args := #[s, x], argTypes := #[t, t] })
  (base : Nat) (e : TypeId) (i : TypeInfo) (z : Value) (bytes : Nat) (ht : P.underlying t = some (.slice e)) (hi : P.info? e = some i) (hz : i.zero = some z)
  (hsize : i.size = 1) (hby : i.bytes = bytes) (hzs : z.cells.size = 1)
  (v : Value) (M : List ByteArray) (hs : a.eval s = v) (hown : w.ownsRow base e 1 v M.length (strCells M)) (y : Value) (L : List ByteArray) (hx : a.eval x = y) (hL : IsStrs w y L)
  (h63 : M.length + L.length ≤ maxLen) (hbytes : (M.length + L.length) * bytes ≤ 140737488355328) (hbase : base ≤ w.heap.size)
  (h : ∀ v' w', w'.ownsRow base e 1 v' (M ++ L).length (strCells (M ++ L)) → w.grownBy w' v.ownBlock → K (a.put o.dst v') w') : o.wp P a w K Q := by
 obtain ⟨_, ad, cap, rfl, ⟨h0, _⟩, h1⟩ := hL
 cases ad with
 | none =>
  obtain ⟨rfl, rfl⟩ := h0 rfl
  have hrun := run_append_owned_none (P := P) (w := w) base t o.type e i 1 ht hi v M.length (strCells M) hown
  unfold Oper.wp
  simp [execOp, ho, resolve, invoke, builtin, hs, hx, hrun, Result.andThen]
  exact h v w (by simpa using hown) ⟨rfl, rfl, rfl, Nat.le_refl _, fun _ _ _ => rfl⟩
 | some ad =>
  refine wp_append_own w s x t ho base e i z 1 bytes ht hi hz hsize hby hzs (by decide) v M.length (strCells M) hs hown ad L.length cap (strCells L) hx (by rw [strCells_len]; omega) ?_ ?_ h63 hbytes hbase ?_
  ·intro j u hj
   have hjl : j < L.length := by
    have := (List.getElem?_eq_some_iff.1 hj).1
    rwa [strCells_len] at this
   rw [strCells_get hjl] at hj
   cases hj
   obtain ⟨b, off, e1, _, hc⟩ := h1 (by omega)
   cases e1
   rw [add_plain']; exact hc j hjl
  ·intro u hu
   obtain ⟨s, _, rfl⟩ := List.mem_map.1 hu
   rfl
  ·intro v' w' hown' hg _
   refine h v' w' ?_ hg
   rw [List.length_append, strCells_app]; exact hown'
theorem wp_append_txts {o : Oper} {a : Act} {W w : World} {K : Act → World → Prop} {Q : Exit → Act → World → Prop} (s x : Nat)
  (ho : o.op = .call { callee := .builtin .append, args := #[.tmp s, .tmp x], argTypes := #[33, 33] })
  {M : List (List UInt8)} {L : List ByteArray} (hown : OwnTxt W w (slot a s) M) (hb : W.heap.size ≤ w.heap.size) (hL : IsStrs w (slot a x) L) (hlen : M.length + L.length ≤ 1000000)
  (h : ∀ v' w', OwnTxt W w' v' (M ++ txts L) → w.grownBy w' (slot a s).ownBlock → K (a.put o.dst v') w') : o.wp Tryz.prog a w K Q := by
 obtain ⟨i0, hi, hz0, hz1, hz2⟩ := info_parts infoStr
 refine wp_append_strs_Fgs (.tmp s) (.tmp x) 33 ho W.heap.size 9 i0 (.string ⟨#[]⟩) 16 Tryz.underlying33 hi hz0 hz1 hz2 rfl (slot a s) (strsOf M) rfl hown (slot a x) L rfl hL ?_ ?_ hb ?_
 ·rw [strsOf_len]; unfold maxLen; omega
 ·rw [strsOf_len]; omega
 ·intro v' w' h1 h2
  refine h v' w' ?_ h2
  unfold OwnTxt; rw [strsOf_app, strsOf_txts]; exact h1
theorem wp_build_two {o : Oper} {a : Act} {K : Act → World → Prop} {Q : Exit → Act → World → Prop} {w : World} (p q : Nat) (ho : o.op = .buildSlice 33 2 #[(0, .tmp p), (1, .tmp q)]) {x y : ByteArray}
  (hx : slot a p = .string x) (hy : slot a q = .string y) (hk : K (a.put o.dst (.slice (some ⟨w.heap.size, 0, none⟩) 2 2)) (w.alloc (.cells #[.string x, .string y] 9))) : o.wp Tryz.prog a w K Q := by
 refine wp_value (v := .slice (some ⟨w.heap.size, 0, none⟩) 2 2) (w' := w.alloc (.cells #[.string x, .string y] 9)) ?_ hk
 have f := slot_at hx
 have g := slot_at hy
 unfold execOp
 rw [ho]
 go_simp
theorem strs_two (w : World) (x y : ByteArray) : IsStrs (w.alloc (.cells #[.string x, .string y] 9)) (.slice (some ⟨w.heap.size, 0, none⟩) 2 2) [x, y] := by
 refine ⟨by show 2 ≤ maxLen; decide, _, 2, rfl, ⟨fun h => (by cases h), Nat.le_refl _⟩, fun _ => ⟨w.heap.size, 0, rfl, by simp, fun i hi => ?_⟩⟩
 have hi0 : i = 0 ∨ i = 1 := by simp at hi; omega
 rcases hi0 with rfl | rfl
 ·simp
 ·simp
def OneX (w0 : World) (mn av mx : Int) (X : Ob) (W : World) : Prop := OneF w0 mn av mx W ∧ Row W (w0.heap.size + 1) #[.string X.k, .string X.r] 43
theorem OneX.on {w0 W W' : World} {mn av mx : Int} {X : Ob} (h : OneX w0 mn av mx X W) (hb : Below W.heap.size W W') : OneX w0 mn av mx X W' := ⟨h.1.on hb, h.2.step hb⟩
theorem OneX.xcells {w0 W : World} {mn av mx : Int} {X : Ob} (h : OneX w0 mn av mx X W) : W.cell? ⟨w0.heap.size + 1, 0, none⟩ = some (.string X.k) ∧ W.cell? ⟨w0.heap.size + 1, 1, none⟩ = some (.string X.r) := by
 have g0 := h.2.cell 0; have g1 := h.2.cell 1
 simp only [List.getElem?_toArray, List.getElem?_cons_zero, List.getElem?_cons_succ] at g0 g1
 exact ⟨g0, g1⟩
theorem oneX_new (w0 : World) (mn av mx : Int) (X : Ob) : OneX w0 mn av mx X ((w0.alloc (.cells #[.int .i64 mn, .int .i64 av, .int .i64 mx] 23)).alloc (.cells #[.string X.k, .string X.r] 43)) := by
 refine ⟨(oneF_new w0 mn av mx).on ((Below.refl _ _).alloc (Nat.le_refl _) _), ?_⟩
 have := Row.made (w0.alloc (.cells #[.int .i64 mn, .int .i64 av, .int .i64 mx] 23)) #[.string X.k, .string X.r] 43
 rwa [show (w0.alloc (.cells #[.int .i64 mn, .int .i64 av, .int .i64 mx] 23)).heap.size = w0.heap.size + 1 by simp] at this
theorem FewF.some {m a b x : Nat} {I : List It} (h : FewF m a b x I) : 0 < (objsT (cutN m b x) I).length := by
 obtain ⟨z, hz, _⟩ := objs_key h.rdy (topT_mem (cutN m b x) I)
 exact List.length_pos_of_mem hz
theorem FewF.bytes5 {m a b x : Nat} {I : List It} (h : FewF m a b x I) : ∀ y ∈ objsT (cutN m b x) I, y.r.size ≤ 50000 := fun y hy => by
 obtain ⟨n, hn, rfl⟩ := objs_mem hy
 have hf := seqT_fit h.rdy n hn
 have := wrL_len hf
 rw [Lib.size_eq]
 have e : (obN n).r.data.toList = wrN n := obN_u n
 rw [e, wrN_fit hf]; omega
theorem tmod_nat {n z : Nat} : (n : Int).tmod (z : Int) = ((n % z : Nat) : Int) := by
 rw [Int.tmod_eq_emod_of_nonneg (by omega)]; exact (Int.natCast_emod n z).symm
def flsW (V : World) (m a x : Int) (ia : Option Addr) (z ic : Nat) (T : List (List UInt8)) (ob off zo oc i xb : Nat) (r X : ByteArray) (cb : Bool) : List Wd := [.val (pV m a x), .val (.slice ia z ic), .mem (fun v _ w => OwnTxt V w v T) (fun v e w w' hU hb => OwnTxt.stays hU hb), .val (.slice (some ⟨ob, off, none⟩) zo oc), .val (.int .i64 i), .val (.pointer (some ⟨ob, off + i * 2, none⟩)), .val (.pointer (some ⟨ob, off + i * 2 + 1, none⟩)), .val (.string r), .val (.string (r ++ (⟨#[120]⟩ : ByteArray))), .val (.pointer (some ⟨xb, 1, none⟩)), .val (.string X), .mem (fun v _ w => IsStrs w v [r ++ ⟨#[120]⟩, X]) (fun v e w w' hU hb => IsStrs.stays hU hb), .mem (fun v _ w => OwnTxt V w v (T ++ txts [r ++ ⟨#[120]⟩, X])) (fun v e w w' hU hb => OwnTxt.stays hU hb), .val (.bool cb)]
def flsN : List (List Nat) := [[], [], [0, 1], [], [], [3, 4], [5], [6], [7], [], [9], [8, 10], [2, 11], [12]]
def flsE : Nat → Option Tmp
 | _ => none
def flsB : List (Nat × Nat) := [(12, 2), (12, 11)]
set_option maxRecDepth 100000 in
set_option maxHeartbeats 40000000 in
theorem FetchLess_w (mn av mx : Int) (iv : Value) (I : List It) (n : Nat) (X : Ob) (bad : Bool) (w0 : World) (hn : n < 65536) (hi : IsItems w0 iv I) (hz : ∀ x ∈ I, x.c.size ≤ 281474976710656) (hT : ErrT w0) :
  Calls Tryz.prog 4 #[pV mn av mx, iv, .int .u16 n, obV X, .bool bad] w0 fun e w' => e = .returned (.bool true) ∧ Below w0.heap.size w0 w' := by
 have HT := Lib.hid hT; have HI := Lib.hid hi
 have CA := Lib.hid (fun W (hW : ErrT W) => awake13_any W hW)
 obtain ⟨V, hV⟩ : ∃ V, V = (w0.alloc (.cells #[.int .i64 mn, .int .i64 av, .int .i64 mx] 23)).alloc (.cells #[.string X.k, .string X.r] 43) := ⟨_, rfl⟩
 have hP0 : OneX w0 mn av mx X V := by rw [hV]; exact oneX_new _ _ _ _ _
 have HP0 := Lib.hid hP0
 have CF := Lib.hid (fewT13_any mn av mx iv I V (hi.stays hP0.1.2) hz)
 obtain ⟨p0, p1, p2⟩ := hP0.1.cells
 obtain ⟨_, ia, ic, hiv, _, _⟩ := hi
 obtain ⟨z, hzl⟩ : ∃ z, z = I.length := ⟨_, rfl⟩
 rw [← hzl] at hiv
 have HV := Lib.hid hV
 clear hT hP0 hV hz hzl
 subst hiv
 rcases hfw : fewTB mn av mx I with _ | _
 ·rw [hfw] at CF
  clear hfw
  go_enter Tryz.func4, Tryz.ntmps4
  go_wp2_with fail
  rw [← HV.out]
  go_wp2_with fail
  with_reducible refine CF.out.mono ?_
  rintro e w1 ⟨rfl, hb1⟩
  have HP1 := Lib.hid (HP0.out.on hb1)
  have C1 := Lib.hid (CA.out w1 (HT.out.stays HP1.out.1.2))
  clear hb1
  go_wp2_with fail
  with_reducible refine C1.out.mono ?_
  rintro e w2 ⟨rfl, hb2⟩
  have HB2 := Lib.hid (below_step HP1.out.1.2 hb2)
  clear hb2
  go_wp2
  go_ret
  exact ⟨rfl, HB2.out⟩
 by_cases hxs : 3000 < X.r.size
 ·have q1 : decide ((3000 : Int) < (X.r.size : Int)) = true := decide_eq_true (by omega)
  rw [hfw] at CF
  clear hfw
  go_enter Tryz.func4, Tryz.ntmps4
  go_wp2_with fail
  rw [← HV.out]
  go_wp2_with fail
  with_reducible refine CF.out.mono ?_
  rintro e w1 ⟨rfl, hb1⟩
  have HP1 := Lib.hid (HP0.out.on hb1)
  have C1 := Lib.hid (CA.out w1 (HT.out.stays HP1.out.1.2))
  obtain ⟨x0, x1⟩ := HP1.out.xcells
  clear hb1
  go_wp2_with fail
  with_reducible refine C1.out.mono ?_
  rintro e w2 ⟨rfl, hb2⟩
  have HB2 := Lib.hid (below_step HP1.out.1.2 hb2)
  clear hb2
  go_wp2
  go_ret
  exact ⟨rfl, HB2.out⟩
 ·have q1 : decide ((3000 : Int) < (X.r.size : Int)) = false := decide_eq_false (by omega)
  obtain ⟨m, a, b, x, rfl, rfl, rfl, hfe⟩ := fewF_at hfw
  have HF := Lib.hid hfe
  rw [hfw] at CF
  have CB := Lib.hid (fun W (hW : IsItems W (.slice ia z ic) I) => HF.out.rBuild hW)
  have CW := Lib.hid (fun W (hW : IsItems W (.slice ia z ic) I) => HF.out.raws hW)
  have HTO : Hid (¬ Clash (rawsT (cutN m b x) I) → treeE (addO (objsT (cutN m b x) I) X) (keyN (topT (cutN m b x) I)) = .ok I) := Lib.hid (fun hc => tree_more HF.out.rdy hc)
  have HTL : Hid (∀ (i : Nat) (y : Ob), (objsT (cutN m b x) I)[i]? = some y → ¬ Clash (rawsT (cutN m b x) I ++ [y.u ++ [120], X.u]) → treeE (lessL i bad (objsT (cutN m b x) I) 0) (keyN (topT (cutN m b x) I)) = .error (if bad = true then 11 else 5)) := Lib.hid (fun i y hy hc => by
   obtain ⟨hi, rfl⟩ := List.getElem?_eq_some_iff.1 hy
   exact tree_less HF.out.rdy hi bad hc)
  have HFO : Hid (FitO (objsT (cutN m b x) I)) := Lib.hid (objs_fit _ _)
  have HMA := Lib.hid HF.out.many; have HPOS := Lib.hid HF.out.some
  have HBY := Lib.hid HF.out.bytes5
  have HRF := Lib.hid (rawsF_few HF.out)
  obtain ⟨kT, hkT⟩ : ∃ kT, kT = keyN (topT (cutN m b x) I) := ⟨_, rfl⟩
  obtain ⟨O, hO⟩ : ∃ O, O = objsT (cutN m b x) I := ⟨_, rfl⟩
  obtain ⟨T, hTT⟩ : ∃ T, T = rawsT (cutN m b x) I := ⟨_, rfl⟩
  rw [← hkT, ← hO] at CB HTO HTL
  rw [← hO] at HFO HMA HBY HPOS
  rw [← hTT] at HTO HRF CW HTL
  clear HF hfw hfe
  clear hTT hO hkT
  obtain ⟨K, hK⟩ : ∃ K : ByteArray, K = ⟨kT.toArray⟩ := ⟨_, rfl⟩
  have HK : Hid (K.data.toList = kT) := Lib.hid (by rw [hK])
  have HXS : Hid (X.r.size ≤ 3000) := Lib.hid (by omega)
  have HBX : Hid (∀ y ∈ addO O X, y.r.size ≤ 1000000) := Lib.hid (fun y hy => by
   rcases mem_addO.1 hy with h | ⟨rfl, _⟩
   ·exact Nat.le_trans (HBY.out y h) (by decide)
   ·exact Nat.le_trans HXS.out (by decide))
  go_enter Tryz.func4, Tryz.ntmps4
  go_wp2_with fail
  rw [← HV.out]
  go_wp2_with fail
  with_reducible refine CF.out.mono ?_
  rintro e w1 ⟨rfl, hb1⟩
  have HP1 := Lib.hid (HP0.out.on hb1)
  have C1 := Lib.hid (CB.out w1 (HI.out.stays HP1.out.1.2))
  obtain ⟨g0, g1, g2⟩ := HP1.out.1.cells
  obtain ⟨x0, x1⟩ := HP1.out.xcells
  clear hb1 p0 p1 p2
  go_wp2_with fail
  refine C1.out.mono ?_
  rintro e w2 ⟨v2, rfl, ho, hb2⟩
  rw [← hK]
  have HP2 := Lib.hid (HP1.out.on hb2)
  have CD := Lib.hid (rAdd_any v2 O X w2 ho (Nat.le_trans HMA.out (by decide)))
  have HO2 := Lib.hid ho
  clear hb2 g0 g1 g2 x0 x1 hK
  obtain ⟨x0, x1⟩ := HP2.out.xcells
  go_wp2_with fail
  refine CD.out.mono ?_
  rintro e w3 ⟨v3, rfl, hx3, hb3, _⟩
  have HP3 := Lib.hid (HP2.out.on hb3); have HO3 := Lib.hid (HO2.out.stays hb3)
  have CT := Lib.hid (Tree_any v3 (addO O X) K w3 hx3 (addO_fit HFO.out X).1 (by have := (addO_len_le O X).2; have := HMA.out; omega) HBX.out (HT.out.stays HP3.out.1.2))
  rw [HK.out] at CT
  clear hb3 hx3 x0 x1
  go_wp2_with fail
  refine CT.out.mono ?_
  rintro e w4 ⟨v4, M, k, rfl, hm4, hb4, hres⟩
  have HRES := Lib.hid hres
  have HP4 := Lib.hid (HP3.out.on hb4); have HO4 := Lib.hid (HO3.out.stays hb4); have HM4 := Lib.hid hm4.items
  obtain ⟨_, ma, mc, hmv, _, _⟩ := hm4.items
  obtain ⟨zm, hzm⟩ : ∃ zm, zm = M.length := ⟨_, rfl⟩
  rw [← hzm] at hmv
  clear hb4 hm4 hres hzm
  subst hmv
  have HI4 := Lib.hid (HI.out.stays HP4.out.1.2)
  obtain ⟨_, oa, oc, hov, _, hoc⟩ := HO4.out
  obtain ⟨ob, off, rfl, hob, hcl⟩ := hoc HPOS.out
  have HOB := Lib.hid hob
  have HCL := Lib.hid hcl
  obtain ⟨zo, hzo⟩ : ∃ zo, zo = O.length := ⟨_, rfl⟩
  have HZO := Lib.hid hzo
  rw [← hzo] at hov
  have hne : (zo : Int) ≠ 0 := by have := HPOS.out; rw [← hzo] at this; omega
  obtain ⟨i, hii⟩ : ∃ i, i = n % zo := ⟨_, rfl⟩
  have hir : (n : Int).tmod (zo : Int) = (i : Int) := by rw [hii]; exact tmod_nat
  have hio : i < O.length := by rw [hii, ← hzo]; exact Nat.mod_lt _ (by omega)
  have hiz : i < zo := by rw [hzo]; exact hio
  clear hcl hoc hob hzo hii
  subst hov
  have HIR := Lib.hid hir; have HNE := Lib.hid hne
  obtain ⟨y, hy⟩ : ∃ y, y = O[i] := ⟨_, rfl⟩
  have HY : Hid (ObAt w4 ob (off + i * 2) y) := Lib.hid (by rw [hy]; exact HCL.out i hio)
  have HTL2 := Lib.hid (HTL.out i y (by rw [hy]; exact List.getElem?_eq_getElem hio))
  have hyz : y.r.size ≤ 50000 := HBY.out y (by rw [hy]; exact List.getElem_mem hio)
  have hyw : y.r.size ≤ 9223372036854775806 := Nat.le_trans hyz (by decide)
  have hys : (y.u ++ [120]).length ≤ 60000 := by
   have := hyz
   rw [Lib.size_eq] at this
   rw [List.length_append]; show y.r.data.toList.length + 1 ≤ _; omega
  obtain ⟨cb, hcb⟩ : ∃ cb, cb = clashB (T ++ txts [y.r ++ ⟨#[120]⟩, X.r]) := ⟨_, rfl⟩
  have htx : txts [y.r ++ ⟨#[120]⟩, X.r] = [y.u ++ [120], X.u] := by
   show [(y.r ++ ⟨#[120]⟩ : ByteArray).data.toList, X.r.data.toList] = _
   rw [ByteArray.data_append, Array.toList_append]; rfl
  have CC : Hid (∀ (v : Value) (w : World), OwnTxt w4 w v (T ++ txts [y.r ++ ⟨#[120]⟩, X.r]) → _) := Lib.hid (fun v w hv => clashF_txt (V := w4) (T ++ txts [y.r ++ ⟨#[120]⟩, X.r]) (fun t ht => by
   rw [htx] at ht
   rcases List.mem_append.1 ht with h | h
   ·exact Nat.le_trans (HRF.out.2 t h) (by decide)
   ·simp only [List.mem_cons, List.not_mem_nil, or_false] at h
    rcases h with rfl | rfl
    ·exact hys
    ·show X.r.data.toList.length ≤ _
     rw [← Lib.size_eq]; exact Nat.le_trans HXS.out (by decide)) (by rw [List.length_append]; have := HRF.out.1; rw [htx]; show _ + 2 ≤ _; omega) v w hv)
  rw [← hcb] at CC
  rw [htx] at hcb
  have HCB := Lib.hid hcb
  have HLEN : Hid (T.length + [y.r ++ ⟨#[120]⟩, X.r].length ≤ 1000000) := Lib.hid (by have := HRF.out.1; show _ + 2 ≤ _; omega)
  clear hy hys hyz hcb htx
  go_wp2_with (refine wpList_rem rfl _ _ _ _ rfl .i64 (n : Int) (zo : Int) (i : Int) rfl rfl HNE.out HIR.out ?_)
  refine wp_region_wordsG (by kernel_rfl) (by kernel_rfl) (appT 12 (Below w4.heap.size)) (HeldN w4) flsE (wU (flsW w4 m a x ia z ic T ob off zo oc i (w0.heap.size + 1) y.r X.r cb)) 14 flsN [13] (by kernel_rfl) (by kernel_rfl) (by kernel_rfl)
   flsB (by kernel_rfl) (fun ix kx v e w w' hi hk hne hb hU hT => wU_one _ 12 _ flsB (by kernel_rfl) ix kx v e w w' hne hb hU hT) (by decide) (HeldN.drew _) (fun k hk hge => absurd hk (Nat.not_lt.2 (show 14 ≤ k from hge)))
   [51, 52, 53, 54, 55, 56, 57, 58, 59, 60, 61, 62, 63, 64] (by kernel_rfl) (forall_ops ?steps) ?behind
  case steps =>
   refine ⟨?_, ?_, ?_, ?_, ?_, ?_, ?_, ?_, ?_, ?_, ?_, ?_, ?_, ?_, trivial⟩
   ·refine stepG_of rfl ?_
    exact stepR_value (t := 51) (pV m a x) rfl (fun _ => appT_other (by decide) (Below.refl _ _)) (fun ac w hG hN hO => by
     have e5 : slot ac 5 = .pointer (some ⟨w0.heap.size, 0, none⟩) := hO 5 (by kernel_rfl)
     obtain ⟨c0, c1, c2⟩ := (HP4.out.1.on hG.below).cells
     obtain ⟨x0, x1⟩ := (HP4.out.on hG.below).xcells
     have y1 := (HY.out.stays HOB.out hG.below).2
     have f5 := slot_at e5
     unfold execOp; go_simp) (fun ac w hG hN => rfl)
   ·refine stepG_of rfl ?_
    exact stepR_value (t := 52) (.slice ia z ic) rfl (fun _ => appT_other (by decide) (Below.refl _ _)) (fun ac w hG hN hO => by
     have e1 : slot ac 1 = .slice ia z ic := hO 1 (by kernel_rfl)
     exact run_move_slot (.inl rfl) e1) (fun ac w hG hN => rfl)
   ·refine stepG_of rfl ?_
    intro ac w hG hN hO
    have e51 : slot ac 51 = pV m a x := hN 0 (by decide)
    have e52 : slot ac 52 = .slice ia z ic := hN 1 (by decide)
    refine wp_callx 13 _ _ rfl (enters_of Tryz.func13 (by kernel_rfl) rfl) #[pV m a x, .slice ia z ic] (by simp [eval_slot, e51, e52]) (calls_own hG.below.size (CW.out w (HI4.out.stays hG.below))) ?_
    rintro v w'' ⟨hv, hb⟩
    exact ⟨v, rfl, (appT_other (by decide) hb), hG.on hb, hv⟩
   ·refine stepG_of rfl ?_
    exact stepR_value (t := 54) (.slice (some ⟨ob, off, none⟩) zo oc) rfl (fun _ => appT_other (by decide) (Below.refl _ _)) (fun ac w hG hN hO => by
     have e12 : slot ac 12 = .slice (some ⟨ob, off, none⟩) zo oc := hO 12 (by kernel_rfl)
     exact run_move_slot (.inl rfl) e12) (fun ac w hG hN => rfl)
   ·refine stepG_of rfl ?_
    exact stepR_value (t := 55) (.int .i64 i) rfl (fun _ => appT_other (by decide) (Below.refl _ _)) (fun ac w hG hN hO => by
     have e15 : slot ac 15 = .int .i64 i := hO 15 (by kernel_rfl)
     exact run_move_slot (.inl rfl) e15) (fun ac w hG hN => rfl)
   ·refine stepG_of rfl ?_
    exact stepR_value (t := 56) (.pointer (some ⟨ob, off + i * 2, none⟩)) rfl (fun _ => appT_other (by decide) (Below.refl _ _)) (fun ac w hG hN hO => by
     have e54 : slot ac 54 = .slice (some ⟨ob, off, none⟩) zo oc := hN 3 (by decide)
     have e55 : slot ac 55 = .int .i64 i := hN 4 (by decide)
     have f54 := slot_at e54
     have f55 := slot_at e55
     unfold execOp; go_simp) (fun ac w hG hN => rfl)
   ·refine stepG_of rfl ?_
    exact stepR_value (t := 57) (.pointer (some ⟨ob, off + i * 2 + 1, none⟩)) rfl (fun _ => appT_other (by decide) (Below.refl _ _)) (fun ac w hG hN hO => by
     have e56 : slot ac 56 = .pointer (some ⟨ob, off + i * 2, none⟩) := hN 5 (by decide)
     have f56 := slot_at e56
     unfold execOp; go_simp) (fun ac w hG hN => rfl)
   ·refine stepG_of rfl ?_
    exact stepR_value (t := 58) (.string y.r) rfl (fun _ => appT_other (by decide) (Below.refl _ _)) (fun ac w hG hN hO => by
     have e57 : slot ac 57 = .pointer (some ⟨ob, off + i * 2 + 1, none⟩) := hN 6 (by decide)
     obtain ⟨c0, c1, c2⟩ := (HP4.out.1.on hG.below).cells
     obtain ⟨x0, x1⟩ := (HP4.out.on hG.below).xcells
     have y1 := (HY.out.stays HOB.out hG.below).2
     have f57 := slot_at e57
     unfold execOp; go_simp) (fun ac w hG hN => rfl)
   ·refine stepG_of rfl ?_
    exact stepR_value (t := 59) (.string (y.r ++ (⟨#[120]⟩ : ByteArray))) rfl (fun _ => appT_other (by decide) (Below.refl _ _)) (fun ac w hG hN hO => by
     have e58 : slot ac 58 = .string y.r := hN 7 (by decide)
     have f58 := slot_at e58
     unfold execOp; go_simp) (fun ac w hG hN => rfl)
   ·refine stepG_of rfl ?_
    exact stepR_value (t := 60) (.pointer (some ⟨w0.heap.size + 1, 1, none⟩)) rfl (fun _ => appT_other (by decide) (Below.refl _ _)) (fun ac w hG hN hO => by
     have e8 : slot ac 8 = .pointer (some ⟨w0.heap.size + 1, 0, none⟩) := hO 8 (by kernel_rfl)
     have f8 := slot_at e8
     unfold execOp; go_simp) (fun ac w hG hN => rfl)
   ·refine stepG_of rfl ?_
    exact stepR_value (t := 61) (.string X.r) rfl (fun _ => appT_other (by decide) (Below.refl _ _)) (fun ac w hG hN hO => by
     have e60 : slot ac 60 = .pointer (some ⟨w0.heap.size + 1, 1, none⟩) := hN 9 (by decide)
     obtain ⟨c0, c1, c2⟩ := (HP4.out.1.on hG.below).cells
     obtain ⟨x0, x1⟩ := (HP4.out.on hG.below).xcells
     have y1 := (HY.out.stays HOB.out hG.below).2
     have f60 := slot_at e60
     unfold execOp; go_simp) (fun ac w hG hN => rfl)
   ·refine stepG_of rfl ?_
    intro ac w hG hN hO
    have e59 : slot ac 59 = .string (y.r ++ ⟨#[120]⟩) := hN 8 (by decide)
    have e61 : slot ac 61 = .string X.r := hN 10 (by decide)
    exact wp_build_two 59 61 rfl e59 e61 ⟨_, rfl, appT_other (by decide) ((Below.refl _ _).alloc (Nat.le_refl _) _), hG.on ((Below.refl _ _).alloc (Nat.le_refl _) _), strs_two w _ _⟩
   ·refine stepG_of rfl ?_
    intro ac w hG hN hO
    have e53 : OwnTxt w4 w (slot ac 53) T := hN 2 (by decide)
    have e62 : IsStrs w (slot ac 62) [y.r ++ ⟨#[120]⟩, X.r] := hN 11 (by decide)
    refine wp_append_txts 53 62 rfl e53 hG.below.size e62 HLEN.out ?_
    intro v' w' hown' hg
    have hbw : Below w4.heap.size w w' := (Below.refl _ _).grown hg hG.below.size (fun j hj => (World.ownsRow.lt e53 j hj).1)
    exact ⟨v', rfl, appT_at hbw, ⟨hG.below.trans hbw⟩, hown'⟩
   ·refine stepG_of rfl ?_
    intro ac w hG hN hO
    have e63 : OwnTxt w4 w (slot ac 63) (T ++ txts [y.r ++ ⟨#[120]⟩, X.r]) := hN 12 (by decide)
    refine wp_callx 12 _ _ rfl (enters_of Tryz.func12 (by kernel_rfl) rfl) #[slot ac 63] (by simp [eval_slot]) (calls_valN (CC.out _ w e63)) ?_
    rintro v w'' ⟨hv, hb⟩
    exact ⟨v, rfl, (appT_other (by decide) hb), hG.on hb, hv⟩
  case behind =>
   intro ac w5 hG hV hS ha
   have h13 : slot ac 64 = .bool cb := hV 13 (by decide) (by decide)
   generalize slot ac = sl at ha h13
   subst ha
   simp only [patchL, List.contains_cons, List.contains_nil, Nat.reduceBEq, Bool.or_false, Bool.or_true, if_true, Bool.false_eq_true, if_false, Nat.reduceAdd]
   generalize sl 51 = s51
   generalize sl 52 = s52
   generalize sl 53 = s53
   generalize sl 54 = s54
   generalize sl 55 = s55
   generalize sl 56 = s56
   generalize sl 57 = s57
   generalize sl 58 = s58
   generalize sl 59 = s59
   generalize sl 60 = s60
   generalize sl 61 = s61
   generalize sl 62 = s62
   generalize sl 63 = s63
   generalize sl 64 = s64 at h13 ⊢
   subst h13
   clear hV hS
   have HB5 := Lib.hid hG.below
   have HP5 := Lib.hid (HP4.out.on HB5.out); have HO5 := Lib.hid (HO4.out.stays HB5.out); have HM5 := Lib.hid (HM4.out.stays HB5.out)
   clear hG hyw
   rcases cb with _ | _
   ·have hnc : ¬ Clash (T ++ [y.u ++ [120], X.u]) := fun h => by
     have := HCB.out
     rw [clashB_yes h] at this; cases this
    have HL := Lib.hid (HTL2.out hnc)
    obtain ⟨rfl, rfl⟩ : M = I ∧ k = 0 := by
     have hok := HTO.out (clash_more hnc)
     rcases HRES.out with ⟨h1, h2⟩ | ⟨h1, _⟩
     ·rw [hok] at h1; cases h1; exact ⟨rfl, h2⟩
     ·rw [hok] at h1; cases h1
    clear hnc
    obtain ⟨b5, hb5⟩ : ∃ b, b = w5.heap.size := ⟨_, rfl⟩
    have HBE := Lib.hid hb5
    clear hb5
    go_wp2
    go_loopw [16, 68] (fun o ix wr => ∃ q : Nat, q ≤ O.length ∧ ix = .int .i64 q ∧ OwnO w5.heap.size wr o (lessL i bad (O.take q) 0) ∧ Below w5.heap.size w5 wr) (fun _ ix _ => O.length - (intOf ix).toNat)
    case atStart => exact ⟨0, Nat.zero_le _, rfl, obs_own_nil _ _, Below.refl _ _⟩
    case round =>
     obtain ⟨q, hq, rfl, hO, hB⟩ := hrel
     have HO := Lib.hid hO
     have hol : (lessL i bad (O.take q) 0).length ≤ 1000000 := by
      have h1 := lessL_len (i := i) (bad := bad) (O.take q) 0
      have h2 := List.length_take_le q O
      have h3 := HMA.out
      omega
     clear hO
     by_cases hlt : q < O.length
     ·have HS := Lib.hid (lessL_take (i := i) (bad := bad) hlt)
      have hbk : decide ((q : Int) < (zo : Int)) = true := decide_eq_true (by have := HZO.out; omega)
      have hqz : q < zo := by have := HZO.out; omega
      have hqs : q < 1000000 := by have := HMA.out; omega
      have HY2 := Lib.hid ((HCL.out q hlt).stays HOB.out (below_step HB5.out hB))
      obtain ⟨y2, hy2⟩ : ∃ y, y = O[q] := ⟨_, rfl⟩
      have hy2z : y2.r.size ≤ 9223372036854775806 := Nat.le_trans (HBY.out y2 (by rw [hy2]; exact List.getElem_mem hlt)) (by decide)
      rw [← hy2] at HS HY2
      obtain ⟨e0, e1⟩ := HY2.out
      obtain ⟨L0, hL0⟩ : ∃ L, L = lessL i bad (O.take q) 0 := ⟨_, rfl⟩
      obtain ⟨L1, hL1⟩ : ∃ L, L = lessL i bad (O.take (q + 1)) 0 := ⟨_, rfl⟩
      rw [← hL0, ← hL1] at HS
      rw [← hL0] at HO hol
      have HL1 := Lib.hid hL1
      clear hy2 hL0 hL1
      by_cases hqi : q = i
      ·have hqb : ((q : Int) == (i : Int)) = true := by rw [hqi]; exact beq_self_eq_true _
       have HQI := Lib.hid hqi
       clear hqi
       rcases bad with _ | _
       ·have HF1 : Hid (lessL i false (O.take (q + 1)) 0 = L0) := Lib.hid (by rw [← HL1.out, HS.out]; unfold stepL; rw [if_pos HQI.out]; simp)
        go_wp2_with fail
        go_roundw
        case rel => exact ⟨q + 1, by omega, by go_num, by rw [HF1.out]; exact HO.out.stays ((Below.refl _ _).alloc (Nat.le_refl _) _), below_step hB ((Below.refl _ _).alloc (Nat.le_refl _) _)⟩
        case measure => simp [intOf]; omega
       ·have HF1 : Hid (lessL i true (O.take (q + 1)) 0 = L0 ++ [spoilO y2]) := Lib.hid (by rw [← HL1.out, HS.out]; unfold stepL; rw [if_pos HQI.out]; simp)
        obtain ⟨Z, hZ⟩ : ∃ Z, Z = wr.alloc (.cells #[.string (spoilO y2).k, .string (spoilO y2).r] 43) := ⟨_, rfl⟩
        have hbZ : Below wr.heap.size wr Z := by rw [hZ]; exact (Below.refl _ _).alloc (Nat.le_refl _) _
        have hzz : wr.heap.size + 1 = Z.heap.size := by rw [hZ]; simp
        have HOZ := Lib.hid (HO.out.stays hbZ)
        have HBZ := Lib.hid (below_step hB hbZ)
        have HZZ := Lib.hid hzz
        clear hbZ hzz
        subst hZ
        go_wp2_with (at_builtin; refine wpList_append_ob (W := w5) (y := spoilO y2) rfl _ _ rfl HOZ.out HBZ.out HZZ.out rfl rfl hol ?_)
        intro v' w6 hown' hb6
        have HO6 := Lib.hid hown'; have HB6 := Lib.hid hb6
        clear hown' hb6
        go_wp2
        go_roundw
        case rel => exact ⟨q + 1, by omega, by go_num, by rw [HF1.out]; exact HO6.out, HB6.out⟩
        case measure => simp [intOf]; omega
      ·have hqb : ((q : Int) == (i : Int)) = false := by simp; omega
       have HF1 : Hid (lessL i bad (O.take (q + 1)) 0 = L0 ++ [y2]) := Lib.hid (by rw [← HL1.out, HS.out]; unfold stepL; rw [if_neg hqi])
       obtain ⟨Z, hZ⟩ : ∃ Z, Z = wr.alloc (.cells #[.string (y2).k, .string (y2).r] 43) := ⟨_, rfl⟩
       have hbZ : Below wr.heap.size wr Z := by rw [hZ]; exact (Below.refl _ _).alloc (Nat.le_refl _) _
       have hzz : wr.heap.size + 1 = Z.heap.size := by rw [hZ]; simp
       have HOZ := Lib.hid (HO.out.stays hbZ)
       have HBZ := Lib.hid (below_step hB hbZ)
       have HZZ := Lib.hid hzz
       clear hbZ hzz
       subst hZ
       go_wp2_with (at_builtin; refine wpList_append_ob (W := w5) (y := y2) rfl _ _ rfl HOZ.out HBZ.out HZZ.out rfl rfl hol ?_)
       intro v' w6 hown' hb6
       have HO6 := Lib.hid hown'; have HB6 := Lib.hid hb6
       clear hown' hb6
       go_wp2
       go_roundw
       case rel => exact ⟨q + 1, by omega, by go_num, by rw [HF1.out]; exact HO6.out, HB6.out⟩
       case measure => simp [intOf]; omega
     ·have hge : decide ((q : Int) < (zo : Int)) = false := decide_eq_false (by have := HZO.out; omega)
      have hgz : ¬ q < zo := by have := HZO.out; omega
      clear hiz hio
      rw [show O.take q = O from List.take_of_length_le (by omega)] at HO hol
      have HBW := Lib.hid (below_step HP5.out.1.2 hB)
      have HRL : Hid (RiseO (lessL i bad O 0)) := Lib.hid (lessL_rise HFO.out.1)
      have HBL : Hid (∀ u ∈ lessL i bad O 0, u.r.size ≤ 1000000) := Lib.hid (fun u hu => by
       obtain ⟨p, hp, ⟨_, rfl⟩ | ⟨_, _, rfl⟩⟩ := mem_lessL.1 hu
       ·exact Nat.le_trans (HBY.out _ (List.getElem_mem hp)) (by decide)
       ·have := HBY.out _ (List.getElem_mem hp)
        show (O[p].r ++ ⟨#[120]⟩ : ByteArray).size ≤ _
        rw [ByteArray.size_append]
        show O[p].r.size + 1 ≤ _
        omega)
      rcases bad with _ | _
      ·have CT2 := Lib.hid ((Tree_any u16 (lessL i false O 0) K wr HO.out.is HRL.out hol HBL.out (HT.out.stays HBW.out)).mono fun e w' h => RetTree.of_err (by rw [HK.out, show treeE (lessL i false O 0) kT = .error 5 by have := HL.out; simpa using this] at h; exact h))
       go_wp2_with fail
       refine CT2.out.mono ?_
       rintro e w10 ⟨v10, rfl, ho10, _, hb10⟩
       have HB10 := Lib.hid (below_step HBW.out hb10)
       obtain ⟨_, na, nc, hnv, _, _⟩ := ho10.items
       have hnv' : v10 = .slice na 0 nc := hnv
       clear hnv ho10
       subst hnv'
       have C11 := Lib.hid (rSame_any _ _ M M w10 (HM5.out.stays (below_step hB hb10)) (HI.out.stays HB10.out))
       rw [sameT_yes rfl] at C11
       clear hb10 hB
       go_wp2_with fail
       with_reducible refine C11.out.mono ?_
       rintro e w11 ⟨rfl, hb11⟩
       have HB11 := Lib.hid (below_step HB10.out hb11)
       have C12 := Lib.hid (CA.out w11 (HT.out.stays HB11.out))
       clear hb11
       go_wp2_with fail
       with_reducible refine C12.out.mono ?_
       rintro e w12 ⟨rfl, hb12⟩
       have HB12 := Lib.hid (below_step HB11.out hb12)
       clear hb12
       go_wp2
       go_ret
       exact ⟨rfl, HB12.out⟩
      ·have CT2 := Lib.hid ((Tree_any u16 (lessL i true O 0) K wr HO.out.is HRL.out hol HBL.out (HT.out.stays HBW.out)).mono fun e w' h => RetTree.of_err (by rw [HK.out, show treeE (lessL i true O 0) kT = .error 11 by have := HL.out; simpa using this] at h; exact h))
       go_wp2_with fail
       refine CT2.out.mono ?_
       rintro e w10 ⟨v10, rfl, ho10, _, hb10⟩
       have HB10 := Lib.hid (below_step HBW.out hb10)
       obtain ⟨_, na, nc, hnv, _, _⟩ := ho10.items
       have hnv' : v10 = .slice na 0 nc := hnv
       clear hnv ho10
       subst hnv'
       have C11 := Lib.hid (rSame_any _ _ M M w10 (HM5.out.stays (below_step hB hb10)) (HI.out.stays HB10.out))
       rw [sameT_yes rfl] at C11
       clear hb10 hB
       go_wp2_with fail
       with_reducible refine C11.out.mono ?_
       rintro e w11 ⟨rfl, hb11⟩
       have HB11 := Lib.hid (below_step HB10.out hb11)
       have C12 := Lib.hid (CA.out w11 (HT.out.stays HB11.out))
       clear hb11
       go_wp2_with fail
       with_reducible refine C12.out.mono ?_
       rintro e w12 ⟨rfl, hb12⟩
       have HB12 := Lib.hid (below_step HB11.out hb12)
       clear hb12
       go_wp2
       go_ret
       exact ⟨rfl, HB12.out⟩
   ·have HB9 := Lib.hid HP5.out.1.2
    have C9 := Lib.hid (CA.out w5 (HT.out.stays HB9.out))
    go_wp2_with fail
    with_reducible refine C9.out.mono ?_
    rintro e w9 ⟨rfl, hb⟩
    go_wp2
    go_ret
    exact ⟨rfl, below_step HB9.out hb⟩
theorem FetchLess_f (mn av mx : Int) (iv : Value) (I : List It) (n : Nat) (X : Ob) (bad : Bool) (hn : n < 65536) (hX : X.r.size ≤ 281474976710656) (w0 : World) (hi : IsItems w0 iv I) (hz : ∀ x ∈ I, x.c.size ≤ 281474976710656) (hT : ErrT w0) :
  Calls Tryz.prog 4 #[pV mn av mx, iv, .int .u16 n, obV X, .bool bad] w0 fun e w' => e = .returned (.bool true) ∧ Below w0.heap.size w0 w' := FetchLess_w mn av mx iv I n X bad w0 hn hi hz hT
end Go.Proofs.YtjpjpmkadoaipaaGreatDoor

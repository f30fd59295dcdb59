/-
  Texts put together: contracts and laws that this seat's proofs share.
-/
import Derived.Test.YtokknppjeckppaaGreatDoorQa1
import Derived.Test.YtokknppjeckppaaGreatDoorQa0
import Derived.WalkKit
import Derived.ProofKit
import Derived.OpenShut
import Derived.SizedLaws
import Derived.Lib.SmallJoins
import Derived.ChangeSame
import Derived.ChangeMaps5
import Derived.Deep.Slices
import Derived.Deep.Fields
import Derived.LoopTactic
import Derived.RegionTactic
import Derived.BigRegionIn
import Derived.Sort.CutIn
import Derived.Deep.QuietTactic
import Derived.BigQuiet
import Derived.Outline
import Derived.Laws.Cover1
import Derived.Laws.BitsAllLaws
import Derived.Lib.Hide
import Derived.Below
import Derived.Test.YtokknppjeckppaaGreatDoorProg
import Derived.Laws.ShiftsVarLaws
import Derived.Lib.IndexBytes
import Derived.StillTailTactics
import Derived.Lib.QuietBelow
import Derived.IntWalk
import Derived.BigRegion
import Derived.Lib.Bytealg
import Derived.Lib.SliceRun
set_option linter.unusedVariables false
namespace Go.Proofs.YtokknppjeckppaaGreatDoor
open Go.RowKit
abbrev itC (x : It) : List Value := [.string x.p, .bool x.d, .bool x.e, .string x.c]
abbrev itV (x : It) : Value := .agg #[.string x.p, .bool x.d, .bool x.e, .string x.c]
def ItAt (w : World) (b o : Nat) (x : It) : Prop :=
 w.cell? ⟨b, o, none⟩ = some (.string x.p) ∧ w.cell? ⟨b, o + 1, none⟩ = some (.bool x.d) ∧ w.cell? ⟨b, o + 2, none⟩ = some (.bool x.e) ∧ w.cell? ⟨b, o + 3, none⟩ = some (.string x.c)
def IsItems (w : World) (v : Value) (L : List It) : Prop :=
 L.length ≤ maxLen ∧ ∃ (a : Option Addr) (cap : Nat), v = .slice a L.length cap ∧ ((a = none → L = [] ∧ cap = 0) ∧ L.length ≤ cap) ∧ (0 < L.length → ∃ b off, a = some ⟨b, off, none⟩ ∧ b < w.heap.size ∧ ∀ i (h : i < L.length), ItAt w b (off + i * 4) L[i])
theorem isItems_nil (w : World) : IsItems w (.slice none 0 0) [] := ⟨Nat.zero_le _, none, 0, rfl, ⟨fun _ => ⟨rfl, rfl⟩, Nat.le_refl _⟩, fun h => absurd h (by simp)⟩
theorem ItAt.stays {w w' : World} {b o : Nat} {x : It} (h : ItAt w b o x) (hlt : b < w.heap.size) (hb : Below w.heap.size w w') : ItAt w' b o x :=
 ⟨(hb.cell (p := ⟨b, _, none⟩) hlt).trans h.1, (hb.cell (p := ⟨b, _, none⟩) hlt).trans h.2.1, (hb.cell (p := ⟨b, _, none⟩) hlt).trans h.2.2.1, (hb.cell (p := ⟨b, _, none⟩) hlt).trans h.2.2.2⟩
theorem IsItems.stays {w w' : World} {v : Value} {L : List It} (h : IsItems w v L) (hb : Below w.heap.size w w') : IsItems w' v L := by
 obtain ⟨h0, a, cap, h1, h2, h3⟩ := h
 refine ⟨h0, a, cap, h1, h2, fun hL => ?_⟩
 obtain ⟨b, off, e, hlt, hc⟩ := h3 hL
 exact ⟨b, off, e, Nat.lt_of_lt_of_le hlt hb.size, fun i hi => (hc i hi).stays hlt hb⟩
theorem fewer_len (L : List It) (k : Nat) (h : k < L.length) : sizeT (L.take (k + 1)) = sizeT (L.take k) + L[k].c.size := by
 rw [List.take_succ_eq_append_getElem h, sizeT_app, sizeT_cons]; rfl
theorem sizeT_take (L : List It) (k : Nat) : sizeT (L.take k) ≤ sizeT L := by
 conv => rhs; rw [← List.take_append_drop k L]
 rw [sizeT_app]; omega
def InBox (w : World) (b : Nat) (x : It) : Prop := ItAt w b 0 x ∧ b < w.heap.size
theorem InBox.stays {w w' : World} {b : Nat} {x : It} (h : InBox w b x) (hb : Below w.heap.size w w') : InBox w' b x := ⟨h.1.stays h.2 hb, Nat.lt_of_lt_of_le h.2 hb.size⟩
theorem InBox.cells {w : World} {b : Nat} {x : It} (h : InBox w b x) : w.cell? ⟨b, 0, none⟩ = some (.string x.p) ∧ w.cell? ⟨b, 1, none⟩ = some (.bool x.d) ∧ w.cell? ⟨b, 2, none⟩ = some (.bool x.e) ∧ w.cell? ⟨b, 3, none⟩ = some (.string x.c) := h.1
theorem inBox_new (w : World) (x : It) (t : TypeId) : InBox (w.alloc (.cells #[.string x.p, .bool x.d, .bool x.e, .string x.c] t)) w.heap.size x :=
 ⟨⟨by simp, by simp, by simp, by simp⟩, by simp⟩
end Go.Proofs.YtokknppjeckppaaGreatDoor
set_option linter.unusedVariables false
namespace Go.Proofs.YtokknppjeckppaaGreatDoor
open Go.ChangeShapes Go.WideShapes Go.ChangeAt Go.RowKit Go.Joins Go.Deep
theorem all_mem {H : Type} {P : Program} {e : TypeId} : ∀ {l : List (DataW H)} {d : DataW H}, d ∈ l → ∀ n ∈ d.weights P e, n ∈ DataW.weightsAll P e l
 | x :: l, d, h, n, hn => by
  rw [DataW.weightsAll, List.mem_append]
  rcases List.mem_cons.1 h with rfl | h
  ·exact .inl hn
  ·exact .inr (all_mem h n hn)
set_option maxRecDepth 100000 in
set_option maxHeartbeats 2000000 in
theorem trod_itemZ {H : Type} {enc : TypeId × Value → H} {W : World} {base n : Nat} {spare : Nat → Bool} {held : Bool} {cs : List Value} {y : DataW H × List MemPlace}
  (hl : cs.length = 4) (h : DataW.trod enc Tryz.prog W base spare held n 65 cs = some y) : ∃ x : It, cs = itC x ∧ x.p.size ∈ y.1.weights Tryz.prog 65 ∧ x.c.size ∈ y.1.weights Tryz.prog 65 := by
 match cs, hl with
 | [c0, c1, c2, c3], _ =>
  obtain ⟨xs, m, _, hy, _, hlen, hg⟩ := DataW.trod_struct Tryz.underlying65 h
  have k9 : Tryz.prog.cellsOf 9 = 1 := by kernel_rfl
  have k4 : Tryz.prog.cellsOf 4 = 1 := by kernel_rfl
  match xs, hlen with
  | [y0, y1, y2, y3], _ =>
   have h0 : DataW.trod enc Tryz.prog W base spare held m 9 [c0] = some y0 := by simpa [k9] using hg 0 _ rfl
   have h1 : DataW.trod enc Tryz.prog W base spare held m 4 [c1] = some y1 := by simpa [k4] using hg 1 _ rfl
   have h2 : DataW.trod enc Tryz.prog W base spare held m 4 [c2] = some y2 := by simpa [k4] using hg 2 _ rfl
   have h3 : DataW.trod enc Tryz.prog W base spare held m 9 [c3] = some y3 := by simpa [k9] using hg 3 _ rfl
   obtain ⟨s0, e0, z0, _⟩ := DataW.trod_string Tryz.underlying9 h0
   obtain ⟨b1, e1, z1⟩ := DataW.trod_bool Tryz.underlying4 h1
   obtain ⟨b2, e2, z2⟩ := DataW.trod_bool Tryz.underlying4 h2
   obtain ⟨s3, e3, z3, _⟩ := DataW.trod_string Tryz.underlying9 h3
   simp at e0 e1 e2 e3
   subst e0 e1 e2 e3
   have hw : y.1.weights Tryz.prog 65 = DataW.weightsEach Tryz.prog ((Tryz.prog.fieldsOf 65).toList.map (·.type)) [y0.1, y1.1, y2.1, y3.1] := by
    rw [hy]
    simp only [DataW.weights, Tryz.underlying65, Program.fieldsOf, List.map_cons, List.map_nil]
   refine ⟨⟨s0, b1, b2, s3⟩, rfl, ?_, ?_⟩
   ·rw [hw]
    exact DataW.weights_mem_each (j := 0) (t := 9) (d := y0.1) (by kernel_rfl) rfl _ (by rw [z0, Lib.size_eq]; simp only [DataW.weights, List.mem_singleton])
   ·rw [hw]
    exact DataW.weights_mem_each (j := 3) (t := 9) (d := y3.1) (by kernel_rfl) rfl _ (by rw [z3, Lib.size_eq]; simp only [DataW.weights, List.mem_singleton])
set_option maxRecDepth 100000 in
theorem open_itemsZ {H : Type} {enc : TypeId × Value → H} {W : World} {r : Reach} {b0 : Nat} {spare : Nat → Bool} {held : Bool} {v : Value} {d : DataW H} {ps : List MemPlace}
  (hval : Value.okWide Tryz.prog W r b0 40 v) (h : DataW.Trod enc Tryz.prog W 0 spare held 40 v d ps) (hw : ∀ n ∈ d.weights Tryz.prog 40, n ≤ reachBytes) : ∃ L, IsItems W v L ∧ ∀ x ∈ L, x.p.size ≤ reachBytes ∧ x.c.size ≤ reachBytes := by
 obtain ⟨a0, len, cap, rfl⟩ := okWide_slice Tryz.underlying40 hval
 obtain ⟨fuel, hf⟩ := h
 have hC : Tryz.prog.cellsOf 65 = 4 := by kernel_rfl
 rcases open_slice Tryz.underlying40 hf with ⟨hcs, _⟩ | ⟨a, len', cap', m, n, D, Pl, hcs, _, hl, hm, hmm, hdd, hi⟩
 ·simp [Value.cells] at hcs
  obtain ⟨rfl, rfl, rfl⟩ := hcs
  exact ⟨[], isItems_nil W, fun x hx => (by cases hx)⟩
 ·simp [Value.cells] at hcs
  obtain ⟨rfl, rfl, rfl⟩ := hcs
  have hlm : len ≤ m := by rw [hmm]; split <;> omega
  have hit : ∀ i, i < len → ∃ x : It, (∀ j u, (itC x)[j]? = some u → W.cell? (a.add (i * 4 + j)) = some u) ∧ x.p.size ≤ reachBytes ∧ x.c.size ≤ reachBytes := fun i him => by
   obtain ⟨cs, hc, ht⟩ := hi i (by omega)
   rw [hC] at hc
   obtain ⟨_, hcl, hat⟩ := World.cells?_some hc
   obtain ⟨x, rfl, hz1, hz2⟩ := trod_itemZ hcl ht
   have hwd : ∀ n ∈ (D i).weights Tryz.prog 65, n ≤ reachBytes := fun n hn => hw n (by
    have hd1 : d = (.slice ((List.range len).map D) ((List.range (m - len)).map fun j => D (len + j)) : DataW H) := congrArg Prod.fst hdd
    rw [hd1]
    simp only [DataW.weights, Tryz.underlying40, List.mem_cons, List.mem_append]
    exact .inr (.inl (all_mem (List.mem_map.2 ⟨i, List.mem_range.2 him, rfl⟩) n hn)))
   refine ⟨x, fun j u hj => ?_, hwd _ hz1, hwd _ hz2⟩
   have hj4 : j < 4 := by
    have := (List.getElem?_eq_some_iff.1 hj).1
    simpa using this
   have := hat j hj4
   rw [← Go.Deep.add_add, this]; exact hj
  obtain ⟨f, hfx⟩ : ∃ f : Nat → It, ∀ i, i < len → (∀ j u, (itC (f i))[j]? = some u → W.cell? (a.add (i * 4 + j)) = some u) ∧ (f i).p.size ≤ reachBytes ∧ (f i).c.size ≤ reachBytes := by
   refine ⟨fun i => if h : i < len then Classical.choose (hit i h) else zeroIt, fun i h => ?_⟩
   simp only [h, dif_pos]
   exact Classical.choose_spec (hit i h)
  refine ⟨(List.range len).map f, ⟨by simp; omega, some a, cap, by simp, ⟨fun h => (by cases h), by simpa using hl⟩, fun h0 => ?_⟩, fun x hx => (by
   obtain ⟨i, hi2, rfl⟩ := List.mem_map.1 hx
   exact (hfx i (List.mem_range.1 hi2)).2)⟩
  have h0' : 0 < len := by simpa using h0
  have hc0 := (hfx 0 h0').1 0 _ rfl
  obtain ⟨b, off, spot⟩ := a
  have hspot : spot = none := by simpa [Addr.add] using World.cell?_spot hc0
  subst hspot
  refine ⟨b, off, rfl, ?_, fun i hi => ?_⟩
  ·have := block_lt_of_cell hc0
   simpa [Addr.add] using this
  ·have hil : i < len := by simpa using hi
   have hg : ((List.range len).map f)[i] = f i := by simp
   rw [hg]
   have hh := fun j u hu => (hfx i hil).1 j u hu
   refine ⟨?_, ?_, ?_, ?_⟩
   ·have := hh 0 _ rfl; rw [add_plain'] at this; exact this
   ·have := hh 1 _ rfl; rw [add_plain', ← Nat.add_assoc] at this; exact this
   ·have := hh 2 _ rfl; rw [add_plain', ← Nat.add_assoc] at this; exact this
   ·have := hh 3 _ rfl; rw [add_plain', ← Nat.add_assoc] at this; exact this
end Go.Proofs.YtokknppjeckppaaGreatDoor
set_option linter.unusedVariables false
namespace Go.Proofs.YtokknppjeckppaaGreatDoor
open Go.RowKit
attribute [local go_sem] Oper.semAt_some
def hasB (l : List Txt) (x : Txt) : Bool := decide (x ∈ l)
def NotIn (l : List Txt) (x : Txt) (k : Nat) : Prop := x ∉ l.take k
theorem notIn_step {l : List Txt} {x : Txt} {k : Nat} (h : NotIn l x k) (hk : k < l.length) (hne : l[k] ≠ x) : NotIn l x (k + 1) := fun hx => by
 rw [List.take_succ_eq_append_getElem hk, List.mem_append] at hx
 rcases hx with e | e
 ·exact h e
 ·exact hne (List.mem_singleton.1 e).symm
set_option maxRecDepth 100000 in
set_option maxHeartbeats 1000000 in
theorem refHas_any (v : Value) (L : List ByteArray) (x : ByteArray) (w : World) (hv : IsStrs w v L) :
  Calls Tryz.prog 34 #[v, .string x] w fun e w' => e = .returned (.bool (hasB (txts L) x.data.toList)) ∧ w = w' := by
 obtain ⟨hm, a, cap, rfl, _, hc⟩ := hv
 have hmm : L.length ≤ 9223372036854775807 := by unfold maxLen at hm; omega
 have HC := Lib.hid hc
 clear hc hm
 go_enter Tryz.func34, Tryz.ntmps34
 go_wp2
 go_loop [5] (fun i => ∃ k : Nat, k ≤ L.length ∧ i = .int .i64 k ∧ NotIn (txts L) x.data.toList k) (fun i => L.length - (intOf i).toNat)
 case atStart => exact ⟨0, Nat.zero_le _, rfl, fun h => by cases h⟩
 case round =>
  obtain ⟨k, hk, rfl, hn⟩ := hrel
  have HN := Lib.hid hn; clear hn
  by_cases hlt : k < L.length
  ·obtain ⟨b1, o1, rfl, _, g1⟩ := HC.out (by omega)
   have q1 := g1 k hlt
   clear g1
   obtain ⟨y, hy⟩ : ∃ y, y = L[k] := ⟨_, rfl⟩
   rw [← hy] at q1
   have HY := Lib.hid hy; clear hy
   have hbk : decide ((k : Int) < (L.length : Int)) = true := by simpa using (show (k : Int) < L.length by omega)
   by_cases e : y = x
   ·have hb := beq_true e
    have HE := Lib.hid e; clear e
    go_wp2
    go_ret
    refine ⟨ret_val (congrArg Value.bool ?_), rfl⟩
    refine (decide_eq_true ?_).symm
    rw [← HE.out, HY.out, ← txts_get hlt]; exact List.getElem_mem ..
   ·have hb := beq_false e
    have HE := Lib.hid e; clear e
    go_wp2
    go_round
    case rel => exact ⟨k + 1, by omega, by go_num, notIn_step HN.out (by rw [txts_len]; exact hlt) (fun h => HE.out (str_eq' (by rw [HY.out, ← txts_get hlt]; exact h)))⟩
    case measure => simp [intOf]; omega
  ·have hge : decide ((k : Int) < (L.length : Int)) = false := by simp; omega
   go_wp2
   go_ret
   refine ⟨ret_val (congrArg Value.bool ?_), rfl⟩
   refine (decide_eq_false fun h => HN.out ?_).symm
   rw [List.take_of_length_le (by rw [txts_len]; omega)]; exact h
def FitTo (l : List Txt) (k : Nat) : Prop := ∀ i (h : i < l.length), i < k → l[i].length = 32 ∧ (0 < i → l[i - 1]'(by omega) < l[i])
theorem fitTo_zero (l : List Txt) : FitTo l 0 := fun i _ h => absurd h (by omega)
theorem fitTo_step {l : List Txt} {k : Nat} (h : FitTo l k) (hk : k < l.length) (h32 : l[k].length = 32) (hr : 0 < k → l[k - 1]'(by omega) < l[k]) : FitTo l (k + 1) := fun i hi hik => by
 rcases Nat.lt_or_ge i k with e | e
 ·exact h i hi e
 ·obtain rfl : i = k := by omega
  exact ⟨h32, hr⟩
theorem fitB_all {l : List Txt} {k : Nat} (h : FitTo l k) (hk : l.length ≤ k) : fitB l = true := fitB_true fun i hi => h i hi (by omega)
theorem fitB_no32 {l : List Txt} {k : Nat} (hk : k < l.length) (h32 : l[k].length ≠ 32) : fitB l = false := fitB_false fun h => h32 (h k hk).1
theorem fitB_norise {l : List Txt} {k : Nat} (hk : k < l.length) (h0 : 0 < k) (hr : ¬ l[k - 1]'(by omega) < l[k]) : fitB l = false := fitB_false fun h => hr ((h k hk).2 h0)
theorem isKey_any (x : ByteArray) (w : World) :
  Calls Tryz.prog 92 #[.string x] w fun e w' => e = .returned (.bool (((x.size : Nat) : Int) == 32)) ∧ w = w' := by
 go_enter Tryz.func92, Tryz.ntmps92
 go_wp2
 go_ret
 exact ⟨rfl, rfl⟩
def RetL (L : List (List UInt8)) (w : World) (e : Ending) (w' : World) : Prop := ∃ v, e = .returned v ∧ IsStrs w' v (strsOf L) ∧ Below w.heap.size w w'
def OnPart (l : List UInt8) (M : List (List UInt8)) (f k : Nat) : Prop :=
 (k ≤ l.length ∧ f ≤ k ∧ pts l = M ++ pts (l.drop f) ∧ (47 : UInt8) ∉ (l.drop f).take (k - f)) ∨ (k = l.length + 1 ∧ M = pts l)
theorem onPart_start (l : List UInt8) : OnPart l [] 0 0 := .inl ⟨Nat.zero_le _, Nat.le_refl _, rfl, by simp⟩
theorem onPart_le {l : List UInt8} {M : List (List UInt8)} {f k : Nat} (h : OnPart l M f k) (hk : k ≤ l.length) : f ≤ k := by
 rcases h with h | h
 ·exact h.2.1
 ·omega
theorem onPart_cut {l : List UInt8} {M : List (List UInt8)} {f k : Nat} (h : OnPart l M f k) (hk : k < l.length) (h47 : l[k] = 47) : OnPart l (M ++ [(l.drop f).take (k - f)]) (k + 1) (k + 1) := by
 rcases h with ⟨h1, h2, h3, h4⟩ | ⟨h1, _⟩
 ·refine .inl ⟨by omega, Nat.le_refl _, ?_, by simp⟩
  have e : l.drop f = (l.drop f).take (k - f) ++ 47 :: l.drop (k + 1) := by
   conv => lhs; rw [← List.take_append_drop (k - f) (l.drop f)]
   rw [List.drop_drop, show f + (k - f) = k by omega, List.drop_eq_getElem_cons hk, h47]
  rw [h3, e, pts_app, ← e, pts_one h4]; simp
 ·omega
theorem onPart_end {l : List UInt8} {M : List (List UInt8)} {f : Nat} (h : OnPart l M f l.length) (g : Nat) : OnPart l (M ++ [(l.drop f).take (l.length - f)]) g (l.length + 1) := by
 rcases h with ⟨h1, h2, h3, h4⟩ | ⟨h1, _⟩
 ·refine .inr ⟨rfl, ?_⟩
  rw [h3, ← pts_one h4, List.take_of_length_le (by simp)]
 ·omega
theorem onPart_step {l : List UInt8} {M : List (List UInt8)} {f k : Nat} (h : OnPart l M f k) (hk : k < l.length) (h47 : l[k] ≠ 47) : OnPart l M f (k + 1) := by
 rcases h with ⟨h1, h2, h3, h4⟩ | ⟨h1, _⟩
 ·refine .inl ⟨by omega, by omega, h3, ?_⟩
  rw [show k + 1 - f = (k - f) + 1 by omega, List.take_succ_eq_append_getElem (by simp; omega)]
  intro hm
  rcases List.mem_append.1 hm with e | e
  ·exact h4 e
  ·refine h47 ?_
   have := List.mem_singleton.1 e
   rw [List.getElem_drop] at this
   rw [this]; congr 1; omega
 ·omega
theorem onPart_fin {l : List UInt8} {M : List (List UInt8)} {f : Nat} (h : OnPart l M f (l.length + 1)) : M = pts l := by
 rcases h with ⟨h1, _⟩ | ⟨_, h⟩
 ·omega
 ·exact h
theorem getE_list (s : ByteArray) (k : Nat) (h : k < s.size) : s.data.toList[k]'(by rw [← Lib.size_eq]; exact h) = s[k] := by
 show _ = s.data[k]
 simp
set_option maxRecDepth 100000 in
set_option maxHeartbeats 2000000 in
theorem parts_any (s : ByteArray) (hs : s.size ≤ 100000) (w : World) :
  Calls Tryz.prog 90 #[.string s] w (RetL (pts s.data.toList) w) := by
 have hown0 := ownTxt_nil w
 go_enter Tryz.func90, Tryz.ntmps90
 go_wp2
 go_loopw [3, 4, 5] (fun l f i wr => ∃ (M : List (List UInt8)) (a k : Nat) , k ≤ s.size + 1 ∧ f = .int .i64 a ∧ i = .int .i64 k ∧ M.length ≤ k ∧ OnPart s.data.toList M a k ∧ OwnTxt w wr l M ∧ Below w.heap.size w wr) (fun _ _ i _ => s.size + 1 - (intOf i).toNat)
 case atStart => exact ⟨[], 0, 0, Nat.zero_le _, rfl, rfl, Nat.le_refl _, onPart_start _, hown0, Below.refl _ _⟩
 case round =>
  obtain ⟨M, a, k, hk, rfl, rfl, hml, hop, hown, hB⟩ := hrel
  have HP := Lib.hid hop; have HO := Lib.hid hown
  have hol : M.length ≤ 1000000 := by omega
  clear hown0 hop hown
  by_cases hlt : k ≤ s.size
  ·have e1 : decide ((k : Int) ≤ (s.size : Int)) = true := decide_eq_true (by omega)
   have hak := onPart_le HP.out (by rw [← Lib.size_eq]; exact hlt)
   have hd := fun W => run_slice_str (P := Tryz.prog) Tryz.underlying9 s (a : Int) (k : Int) (by omega) (by omega) (by omega) W
   simp only [Int.toNat_natCast] at hd
   have hdat := Lib.extract_data s a k
   obtain ⟨t, ht⟩ : ∃ t, t = s.extract a k := ⟨_, rfl⟩
   rw [← ht] at hd hdat
   clear ht
   by_cases hend : k = s.size
   ·have e2 : ((k : Int) == (s.size : Int)) = true := beq_iff_eq.2 (by omega)
    have HN : Hid (OnPart s.data.toList (M ++ [t.data.toList]) (k + 1) (k + 1)) := by
     have := onPart_end (by have := HP.out; rwa [hend, Lib.size_eq] at this) (k + 1)
     rw [hdat, hend, Lib.size_eq]
     rw [hend, Lib.size_eq] at this
     exact this
    clear hdat hend HP
    go_wp2_with (at_builtin; refine wpList_append_txt rfl _ _ rfl HO.out hB rfl rfl hol ?_)
    intro v' w2 hown' hb2
    have HO2 := Lib.hid hown'; clear hown'
    go_wp2_with fail
    go_roundw
    case rel => exact ⟨_, k + 1, k + 1, by omega, by go_num, by go_num, by rw [List.length_append]; exact Nat.add_le_add_right hml 1, HN.out, HO2.out, hb2⟩
    case measure => simp [intOf]; omega
   ·have hlt2 : k < s.size := by omega
    have e2 : ((k : Int) == (s.size : Int)) = false := beq_eq_false_iff_ne.2 (by omega)
    have hll : k < s.data.toList.length := by rw [← Lib.size_eq]; exact hlt2
    by_cases b47 : s[k] = 47
    ·have c1 : ((s[k].toNat : Int) == 47) = true := by rw [b47]; rfl
     have HN : Hid (OnPart s.data.toList (M ++ [t.data.toList]) (k + 1) (k + 1)) := by
      rw [hdat]; exact onPart_cut HP.out hll (by rw [getE_list s k hlt2]; exact b47)
     clear hdat hend HP b47
     go_wp2_with (at_builtin; refine wpList_append_txt rfl _ _ rfl HO.out hB rfl rfl hol ?_)
     intro v' w2 hown' hb2
     have HO2 := Lib.hid hown'; clear hown'
     go_wp2_with fail
     go_roundw
     case rel => exact ⟨_, k + 1, k + 1, by omega, by go_num, by go_num, by rw [List.length_append]; exact Nat.add_le_add_right hml 1, HN.out, HO2.out, hb2⟩
     case measure => simp [intOf]; omega
    ·have c1 : ((s[k].toNat : Int) == 47) = false := byte_ne (n := 47) (by decide) b47
     have HN : Hid (OnPart s.data.toList M a (k + 1)) := onPart_step HP.out hll (by rw [getE_list s k hlt2]; exact b47)
     clear hdat hend HP b47 hd
     go_wp2_with fail
     go_roundw
     case rel => exact ⟨_, a, k + 1, by omega, rfl, by go_num, by omega, HN.out, HO.out, hB⟩
     case measure => simp [intOf]; omega
  ·obtain rfl : k = s.size + 1 := by omega
   have e1 : decide (((s.size + 1 : Nat) : Int) ≤ (s.size : Int)) = false := decide_eq_false (by omega)
   have hM : M = pts s.data.toList := onPart_fin (by have := HP.out; rwa [Lib.size_eq] at this)
   have HST := Lib.hid (by have := HO.out.strs; rw [hM] at this; exact this)
   clear hM HP HO
   go_wp2
   go_ret
   exact ⟨_, rfl, HST.out, hB⟩
def NamesTo (L : List (List UInt8)) (k : Nat) : Prop := ∀ p ∈ L.take k, nameB p = true
theorem names_zero (L : List (List UInt8)) : NamesTo L 0 := fun p hp => by simp at hp
theorem names_step {L : List (List UInt8)} {k : Nat} (h : NamesTo L k) (hk : k < L.length) (hn : nameB L[k] = true) : NamesTo L (k + 1) := fun p hp => by
 rw [List.take_succ_eq_append_getElem hk] at hp
 rcases List.mem_append.1 hp with e | e
 ·exact h p e
 ·rw [List.mem_singleton.1 e]; exact hn
theorem names_all {L : List (List UInt8)} (h : NamesTo L L.length) : L.all nameB = true := List.all_eq_true.2 fun p hp => h p (by rw [List.take_length]; exact hp)
theorem not_all {L : List (List UInt8)} {k : Nat} (hk : k < L.length) (hn : nameB L[k] = false) : ¬ L.all nameB = true := fun h => by
 have := List.all_eq_true.1 h _ (List.getElem_mem hk)
 rw [hn] at this; cases this
theorem strsOf_at (L : List (List UInt8)) (k : Nat) (hk : k < (strsOf L).length) (hk' : k < L.length) : ((strsOf L)[k]).data.toList = L[k] := by
 simp [strsOf]
set_option maxRecDepth 100000 in
set_option maxHeartbeats 2000000 in
theorem refSplit_any (s : ByteArray) (hs : s.size ≤ 100000) (w : World) :
  Calls Tryz.prog 67 #[.string s] w (RetL (splitS s.data.toList) w) := by
 have C := Lib.hid (parts_any s hs)
 obtain ⟨l, hl⟩ : ∃ l, l = s.data.toList := ⟨_, rfl⟩
 rw [← hl] at C ⊢
 clear hl hs
 go_enter Tryz.func67, Tryz.ntmps67
 go_wp2_with fail
 refine (C.out _).mono ?_
 rintro e w1 ⟨v, rfl, hv, hb1⟩
 have HV := Lib.hid hv
 obtain ⟨hm, a, cap, rfl, _, hc⟩ := hv
 have hmm : (strsOf (pts l)).length ≤ 9223372036854775807 := by unfold maxLen at hm; omega
 have HC := Lib.hid hc
 have HLEN := Lib.hid (strsOf_len (pts l))
 have HIN := Lib.hid (strsOf_at (pts l))
 clear hm hc
 obtain ⟨L, hL⟩ : ∃ L, L = strsOf (pts l) := ⟨_, rfl⟩
 rw [← hL] at HV HC HLEN HIN hmm ⊢
 have HLS := Lib.hid hL
 clear hL
 by_cases h8 : 8 < L.length
 ·have e1 : decide ((8 : Int) < (L.length : Int)) = true := decide_eq_true (by omega)
  have HN : Hid (splitS l = []) := if_neg (fun hh => by have := HLEN.out; omega)
  go_wp2
  go_ret
  exact ⟨_, rfl, by rw [HN.out]; exact isStrs_nil _, hb1⟩
 ·have e1 : decide ((8 : Int) < (L.length : Int)) = false := decide_eq_false (by omega)
  go_wp2
  go_loop [4] (fun i => ∃ k : Nat, k ≤ L.length ∧ i = .int .i64 k ∧ NamesTo (pts l) k) (fun i => L.length - (intOf i).toNat)
  case atStart => exact ⟨0, Nat.zero_le _, rfl, names_zero _⟩
  case round =>
   obtain ⟨k, hk, rfl, hn⟩ := hrel
   have HN := Lib.hid hn; clear hn
   by_cases hlt : k < L.length
   ·obtain ⟨b1, o1, rfl, _, g1⟩ := HC.out (by omega)
    have q1 := g1 k hlt
    clear g1
    have hin := HIN.out k hlt (by rw [← HLEN.out]; exact hlt)
    obtain ⟨y, hy⟩ : ∃ y, y = L[k] := ⟨_, rfl⟩
    rw [← hy] at q1 hin
    have HY := Lib.hid hin; clear hin hy
    have hbk : decide ((k : Int) < (L.length : Int)) = true := by simpa using (show (k : Int) < L.length by omega)
    have R := Lib.hid (refName_any y)
    rcases hb : nameB y.data.toList with _ | _
    ·have HS : Hid (splitS l = []) := if_neg (fun hh => not_all (by rw [← HLEN.out]; exact hlt) (by rw [← HY.out]; exact hb) hh.2)
     rw [hb] at R
     clear hb
     go_wp2_with ((with_reducible refine (R.out _).mono ?_); rintro e w2 ⟨rfl, rfl⟩)
     go_ret
     exact ⟨_, rfl, by rw [HS.out]; exact isStrs_nil _, hb1⟩
    ·have HS := Lib.hid (names_step HN.out (by rw [← HLEN.out]; exact hlt) (by rw [← HY.out]; exact hb))
     rw [hb] at R
     clear hb
     go_wp2_with ((with_reducible refine (R.out _).mono ?_); rintro e w2 ⟨rfl, rfl⟩)
     go_round
     case rel => exact ⟨k + 1, by omega, by go_num, HS.out⟩
     case measure => simp [intOf]; omega
   ·obtain rfl : k = L.length := by omega
    have HS : Hid (splitS l = pts l) := if_pos ⟨by rw [← HLEN.out]; omega, names_all (by rw [← HLEN.out]; exact HN.out)⟩
    go_wp2
    go_ret
    exact ⟨_, rfl, by rw [HS.out, ← HLS.out]; exact HV.out, hb1⟩
def isPath (l : List UInt8) : Bool := decide (0 < (splitS l).length)
set_option maxRecDepth 100000 in
theorem refFit_any (s : ByteArray) (hs : s.size ≤ 100000) (w : World) :
  Calls Tryz.prog 84 #[.string s] w fun e w' => e = .returned (.bool (isPath s.data.toList)) ∧ Below w.heap.size w w' := by
 have C := Lib.hid (refSplit_any s hs)
 go_enter Tryz.func84, Tryz.ntmps84
 go_wp2_with fail
 refine (C.out _).mono ?_
 rintro e w1 ⟨v, rfl, ⟨hm, a, cap, rfl, _, hc⟩, hb1⟩
 have HE : Hid (isPath s.data.toList = decide ((0 : Int) < ((strsOf (splitS s.data.toList)).length : Int))) := by
  unfold isPath; rw [strsOf_len]; exact decide_eq_decide.2 (by omega)
 have hmm : (strsOf (splitS s.data.toList)).length ≤ 9223372036854775807 := by unfold maxLen at hm; omega
 clear hc hm
 go_wp2
 go_ret
 exact ⟨ret_val (congrArg Value.bool (by rw [HE.out]; simp)), hb1⟩
theorem joinS_take {L : List (List UInt8)} {k : Nat} (hk : k < L.length) (h0 : 0 < k) : joinS (L.take (k + 1)) = joinS (L.take k) ++ 47 :: L[k] := by
 rw [List.take_succ_eq_append_getElem hk, joinS_snoc (by intro e; have h1 : (L.take k).length = k := by { rw [List.length_take]; omega }; rw [e] at h1; change 0 = k at h1; omega)]
theorem str_of {x : ByteArray} {l : List UInt8} (h : x.data.toList = l) : x = ⟨l.toArray⟩ := by rw [← h]
set_option maxRecDepth 100000 in
set_option maxHeartbeats 2000000 in
theorem refJoin_any (v : Value) (L : List ByteArray) (w : World) (hv : IsStrs w v L) :
  Calls Tryz.prog 89 #[v] w fun e w' => e = .returned (.string ⟨(joinN (txts L)).toArray⟩) ∧ w = w' := by
 obtain ⟨hm, a, cap, rfl, _, hc⟩ := hv
 have hmm : L.length ≤ 9223372036854775807 := by unfold maxLen at hm; omega
 have HC := Lib.hid hc
 have HLEN := Lib.hid (txts_len L)
 clear hm hc
 by_cases h8 : 8 < L.length
 ·have e1 : decide ((8 : Int) < (L.length : Int)) = true := decide_eq_true (by omega)
  have HN : Hid (joinN (txts L) = []) := joinN_long (by rw [HLEN.out]; exact h8)
  go_enter Tryz.func89, Tryz.ntmps89
  go_wp2
  go_ret
  exact ⟨by rw [HN.out]; rfl, rfl⟩
 ·have e1 : decide ((8 : Int) < (L.length : Int)) = false := decide_eq_false (by omega)
  go_enter Tryz.func89, Tryz.ntmps89
  go_wp2
  go_loop [3, 4] (fun r i => ∃ (x : ByteArray) (k : Nat), k ≤ L.length ∧ i = .int .i64 k ∧ r = .string x ∧ x.size ≤ k * 32 ∧ x.data.toList = joinS ((txts L).take k) ∧ NamesTo (txts L) k) (fun _ i => L.length - (intOf i).toNat)
  case atStart => exact ⟨⟨#[]⟩, 0, Nat.zero_le _, rfl, rfl, Nat.le_refl _, rfl, names_zero _⟩
  case round =>
   obtain ⟨x, k, hk, rfl, rfl, hxs, hx, hn⟩ := hrel
   have HN := Lib.hid hn; have HX := Lib.hid hx; clear hn hx
   by_cases hlt : k < L.length
   ·obtain ⟨b1, o1, rfl, _, g1⟩ := HC.out (by omega)
    have q1 := g1 k hlt
    clear g1
    have hlt2 : k < (txts L).length := by rw [HLEN.out]; exact hlt
    have hin : (txts L)[k] = L[k].data.toList := txts_get hlt
    obtain ⟨y, hy⟩ : ∃ y, y = L[k] := ⟨_, rfl⟩
    rw [← hy] at q1 hin
    have HY := Lib.hid hin; clear hin hy
    have hbk : decide ((k : Int) < (L.length : Int)) = true := by simpa using (show (k : Int) < L.length by omega)
    have R := Lib.hid (refName_any y)
    rcases hb : nameB y.data.toList with _ | _
    ·have HS : Hid (joinN (txts L) = []) := joinN_bad (List.getElem_mem hlt2) (by rw [HY.out]; exact hb)
     rw [hb] at R
     clear hb hxs
     go_wp2_with ((with_reducible refine (R.out _).mono ?_); rintro e w2 ⟨rfl, rfl⟩)
     go_ret
     exact ⟨by rw [HS.out]; rfl, rfl⟩
    ·have hys : y.size ≤ 31 := by have := (nameB_iff.1 hb).2.1; rw [← Lib.size_eq] at this; exact this
     have HS := Lib.hid (names_step HN.out hlt2 (by rw [HY.out]; exact hb))
     rw [hb] at R
     clear hb
     by_cases h0 : 0 < k
     ·have e0 : decide ((0 : Int) < (k : Int)) = true := decide_eq_true (by omega)
      have s1 : ¬ 9223372036854775807 < x.size + 1 := by omega
      have s1' : ¬ 9223372036854775807 < x.size + (⟨#[47]⟩ : ByteArray).size := s1
      obtain ⟨x1, hx1⟩ : ∃ x1, x1 = x ++ (⟨#[47]⟩ : ByteArray) := ⟨_, rfl⟩
      have hx1s : x1.size = x.size + 1 := by rw [hx1, size_of_app]; rfl
      have s2 : ¬ 9223372036854775807 < x1.size + y.size := by omega
      have HJ : Hid ((x1 ++ y).data.toList = joinS ((txts L).take (k + 1)) ∧ (x1 ++ y).size ≤ (k + 1) * 32) := by
       refine ⟨?_, by rw [size_of_app]; omega⟩
       rw [joinS_take hlt2 h0, bytes_app, hx1, bytes_app, HX.out, HY.out]; simp
      have HX1 := Lib.hid hx1
      clear hx1
      go_wp2_with ((with_reducible refine (R.out _).mono ?_); rintro e w2 ⟨rfl, rfl⟩)
      rw [← HX1.out]
      go_wp2
      go_round
      case rel => exact ⟨_, k + 1, by omega, by go_num, rfl, HJ.out.2, HJ.out.1, HS.out⟩
      case measure => simp [intOf]; omega
     ·have e0 : decide ((0 : Int) < (k : Int)) = false := decide_eq_false (by omega)
      have HK : Hid (k = 0) := by show k = 0; omega
      have s2 : ¬ 9223372036854775807 < x.size + y.size := by omega
      have HJ : Hid ((x ++ y).data.toList = joinS ((txts L).take (k + 1)) ∧ (x ++ y).size ≤ (k + 1) * 32) := by
       refine ⟨?_, by rw [size_of_app]; omega⟩
       rw [bytes_app, HX.out, List.take_succ_eq_append_getElem hlt2, HY.out, HK.out]; simp [joinS]
      go_wp2_with ((with_reducible refine (R.out _).mono ?_); rintro e w2 ⟨rfl, rfl⟩)
      go_round
      case rel => exact ⟨_, k + 1, by omega, by go_num, rfl, HJ.out.2, HJ.out.1, HS.out⟩
      case measure => simp [intOf]; omega
   ·obtain rfl : k = L.length := by omega
    have HJ : Hid (x = ⟨(joinN (txts L)).toArray⟩) := by
     rw [joinN_small (by rw [HLEN.out]; omega) (names_all (by rw [HLEN.out]; exact HN.out))]
     refine str_of ?_
     rw [HX.out, List.take_of_length_le (by rw [HLEN.out]; exact Nat.le_refl _)]
    clear hxs
    go_wp2
    go_ret
    exact ⟨by rw [← HJ.out]; rfl, rfl⟩
abbrev Tx := List UInt8
theorem x_irrefl (x : Tx) : ¬ x < x := List.lt_irrefl x
theorem x_trans {x y z : Tx} (h : x < y) (h' : y < z) : x < z := List.lt_trans h h'
theorem x_tri (x y : Tx) (h : ¬ x < y) (h' : ¬ y < x) : x = y := List.le_antisymm (List.not_lt.1 h') (List.not_lt.1 h)
theorem x_asymm {x y : Tx} (h : x < y) : ¬ y < x := fun h' => x_irrefl _ (x_trans h h')
def ordX (x y : Tx) : Int := if x < y then -1 else if y < x then 1 else 0
theorem ordX_lt {x y : Tx} (h : x < y) : ordX x y = -1 := if_pos h
theorem ordX_gt {x y : Tx} (h : y < x) : ordX x y = 1 := by rw [ordX, if_neg (x_asymm h), if_pos h]
theorem ordX_eq (x : Tx) : ordX x x = 0 := by rw [ordX, if_neg (x_irrefl x), if_neg (x_irrefl x)]
theorem cmpP_cons (a b : Tx) (x y : List Tx) : cmpP (a :: x) (b :: y) = if ordX a b = 0 then cmpP x y else ordX a b := by
 by_cases h : a < b
 ·rw [ordX_lt h, if_neg (by decide), cmpP, if_pos h]
 ·by_cases h2 : b < a
  ·rw [ordX_gt h2, if_neg (by decide), cmpP, if_neg h, if_pos h2]
  ·rw [x_tri a b h h2, ordX_eq, if_pos rfl, cmpP, if_neg (x_irrefl b), if_neg (x_irrefl b)]
def SameTo (X Y : List Tx) (k : Nat) : Prop := cmpP X Y = cmpP (X.drop k) (Y.drop k)
theorem same_zero (X Y : List Tx) : SameTo X Y 0 := rfl
theorem same_one {X Y : List Tx} {k : Nat} (h : SameTo X Y k) (hx : k < X.length) (hy : k < Y.length) : cmpP X Y = if ordX X[k] Y[k] = 0 then cmpP (X.drop (k + 1)) (Y.drop (k + 1)) else ordX X[k] Y[k] := by
 unfold SameTo at h
 rw [h, List.drop_eq_getElem_cons hx, List.drop_eq_getElem_cons hy, cmpP_cons]
theorem same_step {X Y : List Tx} {k : Nat} (h : SameTo X Y k) (hx : k < X.length) (hy : k < Y.length) (h0 : ordX X[k] Y[k] = 0) : SameTo X Y (k + 1) := by
 unfold SameTo; rw [same_one h hx hy, if_pos h0]
theorem same_stop {X Y : List Tx} {k : Nat} (h : SameTo X Y k) (hx : k < X.length) (hy : k < Y.length) (h0 : ordX X[k] Y[k] ≠ 0) : cmpP X Y = ordX X[k] Y[k] := by
 rw [same_one h hx hy, if_neg h0]
theorem same_longer {X Y : List Tx} {k : Nat} (h : SameTo X Y k) (hx : k < X.length) (hy : Y.length ≤ k) : cmpP X Y = 1 := by
 unfold SameTo at h
 rw [h, List.drop_eq_getElem_cons hx, List.drop_of_length_le hy]; rfl
theorem same_shorter {X Y : List Tx} {k : Nat} (h : SameTo X Y k) (hx : X.length ≤ k) (hy : k < Y.length) : cmpP X Y = -1 := by
 unfold SameTo at h
 rw [h, List.drop_eq_getElem_cons hy, List.drop_of_length_le hx]; rfl
theorem same_end {X Y : List Tx} {k : Nat} (h : SameTo X Y k) (hx : X.length ≤ k) (hy : Y.length ≤ k) : cmpP X Y = 0 := by
 unfold SameTo at h
 rw [h, List.drop_of_length_le hx, List.drop_of_length_le hy]; rfl
theorem ordX_cases (x y : Tx) : (x < y ∧ ordX x y = -1) ∨ (y < x ∧ ordX x y = 1) ∨ (x = y ∧ ordX x y = 0) := by
 by_cases h : x < y
 ·exact .inl ⟨h, ordX_lt h⟩
 ·by_cases h2 : y < x
  ·exact .inr (.inl ⟨h2, ordX_gt h2⟩)
  ·obtain rfl := x_tri x y h h2
   exact .inr (.inr ⟨rfl, ordX_eq x⟩)
set_option maxRecDepth 100000 in
set_option maxHeartbeats 2000000 in
theorem refDir_any (s : ByteArray) (hs : s.size ≤ 100000) (w : World) :
  Calls Tryz.prog 66 #[.string s] w fun e w' => e = .returned (.string ⟨(dirS s.data.toList).toArray⟩) ∧ Below w.heap.size w w' := by
 have C := Lib.hid (refSplit_any s hs)
 have J := Lib.hid refJoin_any
 obtain ⟨l, hl⟩ : ∃ l, l = s.data.toList := ⟨_, rfl⟩
 rw [← hl] at C ⊢
 clear hl hs
 go_enter Tryz.func66, Tryz.ntmps66
 go_wp2_with fail
 refine (C.out _).mono ?_
 rintro e w1 ⟨v, rfl, hv, hb1⟩
 have HV := Lib.hid hv
 obtain ⟨hm, a, cap, rfl, ⟨_, hcap⟩, hc⟩ := hv
 have HLEN := Lib.hid (strsOf_len (splitS l))
 have HT := Lib.hid (txts_strsOf (splitS l))
 obtain ⟨L, hL⟩ : ∃ L, L = strsOf (splitS l) := ⟨_, rfl⟩
 rw [← hL] at HV HLEN HT hm hcap hc ⊢
 clear hL
 have hmm : L.length ≤ 9223372036854775807 := by unfold maxLen at hm; omega
 by_cases h2 : L.length < 2
 ·have e2 : decide ((L.length : Int) < 2) = true := decide_eq_true (by omega)
  have HN : Hid (dirS l = []) := splitS_short (by rw [← HLEN.out]; exact h2)
  clear hc hm hcap
  go_wp2
  go_ret
  exact ⟨by rw [HN.out]; rfl, hb1⟩
 ·have e2 : decide ((L.length : Int) < 2) = false := decide_eq_false (by omega)
  obtain ⟨b, off, rfl, hlt, hcell⟩ := hc (by omega)
  have hV2 : IsStrs w1 (.slice (some ⟨b, off, none⟩) (L.length - 1) cap) L.dropLast := by
   refine ⟨by rw [List.length_dropLast]; omega, some ⟨b, off, none⟩, cap, by rw [List.length_dropLast], ⟨fun h => (by cases h), by rw [List.length_dropLast]; omega⟩, fun _ => ⟨b, off, rfl, hlt, fun i hi => ?_⟩⟩
   rw [List.length_dropLast] at hi
   rw [hcell i (by omega), List.getElem_dropLast]
  have HV2 := Lib.hid hV2
  have J2 := Lib.hid (fun hv => J.out (.slice (some ⟨b, off, none⟩) (L.length - 1) cap) L.dropLast w1 hv)
  have HD : Hid (joinN (txts L.dropLast) = dirS l) := by
   show _ = _
   rw [show txts L.dropLast = (txts L).dropLast by simp [txts], HT.out]; rfl
  have hz : ((L.length : Int) - 1) = ((L.length - 1 : Nat) : Int) := by omega
  have HZ := Lib.hid hz
  clear hc hcell hV2 hz J
  go_wp2_with fail
  refine (J2.out HV2.out).mono ?_
  rintro e w2 ⟨rfl, rfl⟩
  go_wp2
  go_ret
  exact ⟨by rw [HD.out]; rfl, hb1⟩
theorem find_none_step {L : List It} {t : List UInt8} {k : Nat} (hk : k < L.length) (h : findT (L.take k) t = none) (hne : L[k].t ≠ t) : findT (L.take (k + 1)) t = none := by
 rw [List.take_succ_eq_append_getElem hk, findT_app_none h, findT_cons, if_neg hne]; rfl
theorem find_some_step {L : List It} {t : List UInt8} {k : Nat} (hk : k < L.length) (h : findT (L.take k) t = none) (he : L[k].t = t) : findT L t = some L[k] := by
 conv => lhs; rw [← List.take_append_drop k L]
 rw [findT_app_none h, List.drop_eq_getElem_cons hk, findT_cons, if_pos he]
set_option maxRecDepth 100000 in
set_option maxHeartbeats 2000000 in
theorem rFind_any (v : Value) (L : List It) (s : ByteArray) (w : World) (h : IsItems w v L) :
  Calls Tryz.prog 103 #[v, .string s] w fun e w' => e = .returned (.tuple #[itV (foundI L s.data.toList), .bool (findT L s.data.toList).isSome]) ∧ Below w.heap.size w w' := by
 have HI := Lib.hid h
 obtain ⟨hm, a, cap, rfl, _, hc⟩ := h
 have hmm : L.length ≤ 9223372036854775807 := by unfold maxLen at hm; omega
 clear hc hm
 go_enter Tryz.func103, Tryz.ntmps103
 go_wp2
 go_loop [6] (fun i => ∃ k : Nat, k ≤ L.length ∧ i = .int .i64 k ∧ findT (L.take k) s.data.toList = none) (fun i => L.length - (intOf i).toNat)
 case atStart => exact ⟨0, Nat.zero_le _, rfl, rfl⟩
 case round =>
  obtain ⟨k, hk, rfl, hn⟩ := hrel
  have HN := Lib.hid hn; clear hn
  by_cases hlt : k < L.length
  ·have hI := HI.out.stays ((Below.refl _ w).alloc (Nat.le_refl _) (.cells #[.string ⟨#[]⟩, .bool false, .bool false, .string ⟨#[]⟩] 65))
   obtain ⟨_, _, _, e, _, hc⟩ := hI
   cases e
   obtain ⟨b, off, rfl, _, g⟩ := hc (by omega)
   obtain ⟨c0, c1, c2, c3⟩ := g k hlt
   clear g hc
   have hbk : decide ((k : Int) < (L.length : Int)) = true := by simpa using (show (k : Int) < L.length by omega)
   by_cases he : L[k].p = s
   ·have HS := Lib.hid (find_some_step hlt HN.out (by rw [It.t, he]))
    have hb1 := beq_true he
    have HE := Lib.hid he; clear he
    go_wp2
    exact bodyPost_ret (v := .tuple #[itV L[k], .bool true]) (by simp [results, Tryz.results103, go_sem]) rfl ⟨by rw [foundI_some HS.out, HS.out]; rfl, (Below.refl _ _).alloc (Nat.le_refl _) _⟩
   ·have HS := Lib.hid (find_none_step hlt HN.out (fun e => he (str_eq' e)))
    have hb1 := beq_false he
    clear he
    go_wp2
    go_round
    case rel => exact ⟨k + 1, by omega, by go_num, HS.out⟩
    case measure => simp [intOf]; omega
  ·have HS : Hid (findT L s.data.toList = none) := by
    have := HN.out; rwa [List.take_of_length_le (by omega)] at this
   go_wp2
   exact bodyPost_ret (v := .tuple #[itV zeroIt, .bool false]) (by simp [results, Tryz.results103, go_sem, zeroIt]) rfl ⟨by rw [foundI_none HS.out, HS.out]; rfl, (Below.refl _ _).alloc (Nat.le_refl _) _⟩
set_option maxRecDepth 100000 in
set_option maxHeartbeats 2000000 in
theorem rUnder_any (v : Value) (L : List It) (s : ByteArray) (w : World) (h : IsItems w v L) (hs : s.size ≤ 100000) :
  Calls Tryz.prog 86 #[v, .string s] w fun e w' => e = .returned (.bool (underT L s.data.toList)) ∧ Below w.heap.size w w' := by
 have HI := Lib.hid h
 have C := Lib.hid (refDir_any s hs)
 have F := Lib.hid rFind_any
 clear h hs
 obtain ⟨t, ht⟩ : ∃ t, t = s.data.toList := ⟨_, rfl⟩
 rw [← ht] at C ⊢
 clear ht
 by_cases hd : dirS t = []
 ·have HU : Hid (underT L t = true) := show _ = _ by unfold underT; rw [hd]; rfl
  have hd2 : (dirS t).isEmpty = true := by rw [hd]; rfl
  have HD := Lib.hid hd
  clear hd
  go_enter Tryz.func86, Tryz.ntmps86
  go_wp2_with fail
  refine (C.out _).mono ?_
  rintro e w1 ⟨rfl, hb1⟩
  go_wp2
  go_ret
  exact ⟨by rw [HU.out]; rfl, hb1⟩
 ·have HU : Hid (underT L t = (foundI L (dirS t)).d) := show _ = _ by unfold underT; rw [decide_eq_false hd]; rfl
  have hd2 : (dirS t).isEmpty = false := by simpa using hd
  clear hd
  go_enter Tryz.func86, Tryz.ntmps86
  go_wp2_with fail
  refine (C.out _).mono ?_
  rintro e w1 ⟨rfl, hb1⟩
  have F1 := Lib.hid (F.out v L ⟨(dirS t).toArray⟩ w1 (HI.out.stays hb1))
  go_wp2_with fail
  refine F1.out.mono ?_
  rintro e w2 ⟨rfl, hb2⟩
  have hB := below_step hb1 hb2
  clear hb1 hb2 F1 F
  have hsz := hB.size
  have HN : Hid (¬ (findT L (dirS t)).isSome = true → (foundI L (dirS t)).d = false) := show _ → _ from fun h => by rw [foundI_none (Option.not_isSome_iff_eq_none.1 h)]; rfl
  go_wp2
  ·go_ret
   exact ⟨by rw [HU.out]; rfl, hB.alloc hsz _⟩
  ·rename_i hh
   go_ret
   exact ⟨by rw [HU.out, HN.out hh]; rfl, hB.alloc hsz _⟩
def smallI (x : It) : Bool := decide (x.p.size ≤ 400) && decide (x.c.size ≤ 40000)
def fewB (L : List It) : Bool := decide (L.length ≤ 70) && L.all smallI
theorem few_len {L : List It} (h : fewB L = true) : L.length ≤ 70 := by
 unfold fewB at h; rw [Bool.and_eq_true] at h; exact of_decide_eq_true h.1
theorem few_mem {L : List It} (h : fewB L = true) : ∀ x ∈ L, x.p.size ≤ 400 ∧ x.c.size ≤ 40000 := by
 unfold fewB at h; rw [Bool.and_eq_true] at h
 intro x hx
 have := List.all_eq_true.1 h.2 x hx
 unfold smallI at this; rw [Bool.and_eq_true] at this
 exact ⟨of_decide_eq_true this.1, of_decide_eq_true this.2⟩
theorem few_mk {L : List It} (h1 : L.length ≤ 70) (h2 : ∀ x ∈ L, x.p.size ≤ 400 ∧ x.c.size ≤ 40000) : fewB L = true := by
 unfold fewB; rw [decide_eq_true h1, Bool.true_and, List.all_eq_true]
 intro x hx
 unfold smallI; rw [decide_eq_true (h2 x hx).1, decide_eq_true (h2 x hx).2]; rfl
def gotO (L : List Ob) (t : List UInt8) : ByteArray := ((getO L t).map (·.r)).getD ⟨#[]⟩
theorem gotO_some {L : List Ob} {t : List UInt8} {x : Ob} (h : getO L t = some x) : gotO L t = x.r := by unfold gotO; rw [h]; rfl
theorem gotO_none {L : List Ob} {t : List UInt8} (h : getO L t = none) : gotO L t = ⟨#[]⟩ := by unfold gotO; rw [h]; rfl
theorem getO_app_none {A B : List Ob} {t : List UInt8} (h : getO A t = none) : getO (A ++ B) t = getO B t := by
 unfold getO at h ⊢; rw [List.find?_append, h]; rfl
theorem getO_cons (x : Ob) (L : List Ob) (t : List UInt8) : getO (x :: L) t = if x.t = t then some x else getO L t := by
 unfold getO
 rw [List.find?_cons]
 by_cases h : x.t = t
 ·simp [h]
 ·simp [h]
theorem getO_none_step {L : List Ob} {t : List UInt8} {k : Nat} (hk : k < L.length) (h : getO (L.take k) t = none) (hne : L[k].t ≠ t) : getO (L.take (k + 1)) t = none := by
 rw [List.take_succ_eq_append_getElem hk, getO_app_none h, getO_cons, if_neg hne]; rfl
theorem getO_some_step {L : List Ob} {t : List UInt8} {k : Nat} (hk : k < L.length) (h : getO (L.take k) t = none) (he : L[k].t = t) : getO L t = some L[k] := by
 conv => lhs; rw [← List.take_append_drop k L]
 rw [getO_app_none h, List.drop_eq_getElem_cons hk, getO_cons, if_pos he]
set_option maxRecDepth 100000 in
set_option maxHeartbeats 2000000 in
theorem rGet_any (v : Value) (L : List Ob) (s : ByteArray) (w : World) (h : IsObs w v L) :
  Calls Tryz.prog 24 #[v, .string s] w fun e w' => e = .returned (.tuple #[.string (gotO L s.data.toList), .bool (getO L s.data.toList).isSome]) ∧ Below w.heap.size w w' := by
 have HI := Lib.hid h
 obtain ⟨hm, a, cap, rfl, _, hc⟩ := h
 have hmm : L.length ≤ 9223372036854775807 := by unfold maxLen at hm; omega
 clear hc hm
 go_enter Tryz.func24, Tryz.ntmps24
 go_wp2
 go_loop [6] (fun i => ∃ k : Nat, k ≤ L.length ∧ i = .int .i64 k ∧ getO (L.take k) s.data.toList = none) (fun i => L.length - (intOf i).toNat)
 case atStart => exact ⟨0, Nat.zero_le _, rfl, rfl⟩
 case round =>
  obtain ⟨k, hk, rfl, hn⟩ := hrel
  have HN := Lib.hid hn; clear hn
  by_cases hlt : k < L.length
  ·have hI := HI.out
   obtain ⟨_, _, _, e, _, hc⟩ := hI
   cases e
   obtain ⟨b, off, rfl, _, g⟩ := hc (by omega)
   obtain ⟨c0, c1⟩ := g k hlt
   clear g hc
   have hbk : decide ((k : Int) < (L.length : Int)) = true := by simpa using (show (k : Int) < L.length by omega)
   by_cases he : L[k].k = s
   ·have HS := Lib.hid (getO_some_step hlt HN.out (by rw [Ob.t, he]))
    have hb1 := beq_true he
    have HE := Lib.hid he; clear he
    go_wp2
    exact bodyPost_ret (v := .tuple #[.string L[k].r, .bool true]) (by simp [results, Tryz.results24, go_sem]) rfl ⟨by rw [gotO_some HS.out, HS.out]; rfl, Below.refl _ _⟩
   ·have HS := Lib.hid (getO_none_step hlt HN.out (fun e => he (str_eq' e)))
    have hb1 := beq_false he
    clear he
    go_wp2
    go_round
    case rel => exact ⟨k + 1, by omega, by go_num, HS.out⟩
    case measure => simp [intOf]; omega
  ·have HS : Hid (getO L s.data.toList = none) := by
    have := HN.out; rwa [List.take_of_length_le (by omega)] at this
   go_wp2
   exact bodyPost_ret (v := .tuple #[.string ⟨#[]⟩, .bool false]) (by simp [results, Tryz.results24, go_sem]) rfl ⟨by rw [gotO_none HS.out, HS.out]; rfl, Below.refl _ _⟩
theorem keyAt {L : List Ob} {i : Nat} (h : i < L.length) : (L.map Ob.t)[i]'(by rw [List.length_map]; exact h) = L[i].k.data.toList := List.getElem_map ..
theorem fitO_keys (L : List Ob) : FitO L ↔ FitP (L.map Ob.t) := by
 constructor
 ·intro h
  refine fit_of ?_ (fun t ht => ?_)
  ·exact List.pairwise_map.2 h.1
  ·obtain ⟨x, hx, rfl⟩ := List.mem_map.1 ht; exact h.2 x hx
 ·intro h
  refine ⟨List.pairwise_map.1 (fit_rises h), fun x hx => ?_⟩
  obtain ⟨i, hi, e⟩ := List.mem_iff_getElem.1 (List.mem_map.2 ⟨x, hx, rfl⟩ : x.t ∈ L.map Ob.t)
  rw [← e]; exact (h i hi).1
theorem fitO_eq (L : List Ob) : fitO L = fitB (L.map Ob.t) := by
 by_cases h : FitP (L.map Ob.t)
 ·rw [fitB_true h, fitO_yes ((fitO_keys L).2 h)]
 ·rw [fitB_false h, fitO_no (fun g => h ((fitO_keys L).1 g))]
theorem fitO_norise {L : List Ob} {k : Nat} (hk : k < (L.map Ob.t).length) (h0 : 0 < k) (hr : ¬ (L.map Ob.t)[k - 1]'(by omega) < (L.map Ob.t)[k]) : fitO L = false := by rw [fitO_eq]; exact fitB_norise hk h0 hr
theorem fitO_no32 {L : List Ob} {k : Nat} (hk : k < (L.map Ob.t).length) (h : (L.map Ob.t)[k].length ≠ 32) : fitO L = false := by rw [fitO_eq]; exact fitB_no32 hk h
theorem fitO_all {L : List Ob} {k : Nat} (h : FitTo (L.map Ob.t) k) (hk : (L.map Ob.t).length ≤ k) : fitO L = true := by rw [fitO_eq]; exact fitB_all h hk
set_option maxRecDepth 100000 in
set_option maxHeartbeats 2000000 in
theorem rFitO_any (v : Value) (L : List Ob) (w : World) (hv : IsObs w v L) :
  Calls Tryz.prog 27 #[v] w fun e w' => e = .returned (.bool (fitO L)) ∧ Below w.heap.size w w' := by
 obtain ⟨hm, a, cap, rfl, _, hc⟩ := hv
 have hmm : L.length ≤ 9223372036854775807 := by unfold maxLen at hm; omega
 have HC := Lib.hid hc
 clear hc hm
 go_enter Tryz.func27, Tryz.ntmps27
 go_wp2
 go_loopw [3] (fun i wr => ∃ k m : Nat, k ≤ L.length ∧ i = .int .i64 k ∧ FitTo (L.map Ob.t) k ∧ wr = w.drewN m) (fun i _ => L.length - (intOf i).toNat)
 case atStart => exact ⟨0, 0, Nat.zero_le _, rfl, fitTo_zero _, rfl⟩
 case round =>
  obtain ⟨k, m, hk, rfl, hF, rfl⟩ := hrel
  have HF := Lib.hid hF; clear hF
  by_cases hlt : k < L.length
  ·obtain ⟨b1, o1, rfl, _, g1⟩ := HC.out (by omega)
   have q1 := (g1 k hlt).1
   have hkl : k < (L.map Ob.t).length := by rw [List.length_map]; exact hlt
   have hty := keyAt hlt
   obtain ⟨y, hy⟩ : ∃ y, y = L[k].k := ⟨_, rfl⟩
   rw [← hy] at q1 hty
   clear hy
   have HT := Lib.hid hty; clear hty
   have hbk : decide ((k : Int) < (L.length : Int)) = true := by simpa using (show (k : Int) < L.length by omega)
   by_cases h32 : y.size = 32
   ·have h32b : (((y.size : Nat) : Int) != 32) = false := by rw [h32]; rfl
    have h32l : (L.map Ob.t)[k].length = 32 := by rw [HT.out, ← Lib.size_eq]; exact h32
    have H32 := Lib.hid h32l
    clear h32 h32l
    by_cases h0 : k = 0
    ·subst h0
     have HS := Lib.hid (fitTo_step HF.out hkl H32.out (fun h => absurd h (by omega)))
     simp only [Nat.zero_mul, Nat.add_zero] at q1
     clear g1
     go_wp2_with fail
     go_quiet (fail)
     go_wp2
     go_roundw
     case rel => exact ⟨1, m + nq, by omega, by go_num, HS.out, by simp [World.drewN]⟩
     case measure => simp [intOf]; omega
    ·have q0 := (g1 (k - 1) (by omega)).1
     have htz := keyAt (L := L) (i := k - 1) (by omega)
     obtain ⟨z, hz⟩ : ∃ z, z = L[k - 1].k := ⟨_, rfl⟩
     rw [← hz] at q0 htz
     clear hz g1
     obtain ⟨j, hj⟩ : ∃ j, j = k - 1 := ⟨_, rfl⟩
     obtain rfl : k = j + 1 := by omega
     simp only [Nat.add_sub_cancel] at q0 htz
     clear hj
     have hk0 : decide ((0 : Int) < ((j + 1 : Nat) : Int)) = true := by simp
     by_cases hr : z.data.toList < y.data.toList
     ·have hrb : Op.bytesLess z.toList y.toList = true := by rw [less_eq]; exact decide_eq_true hr
      have HS := Lib.hid (fitTo_step HF.out hkl H32.out (fun h => by rw [HT.out]; simp only [Nat.add_sub_cancel]; rw [htz]; exact hr))
      clear hr htz
      go_wp2_with fail
      go_quiet (fail)
      go_wp2
      go_roundw
      case rel => exact ⟨j + 2, m + nq, by omega, by go_num, HS.out, by simp [World.drewN]⟩
      case measure => simp [intOf]; omega
     ·have hrb : Op.bytesLess z.toList y.toList = false := by rw [less_eq]; exact decide_eq_false hr
      have HS := Lib.hid (fitO_norise hkl (by omega) (by rw [HT.out]; simp only [Nat.add_sub_cancel]; rw [htz]; exact hr))
      clear hr htz
      go_wp2_with fail
      go_quiet (fail)
      go_wp2
      go_ret
      exact ⟨ret_val (congrArg Value.bool HS.out.symm), below_drewN (below_drewN (Below.refl _ _) _) _⟩
   ·have h32b : (((y.size : Nat) : Int) != 32) = true := by simp; omega
    have HS := Lib.hid (fitO_no32 hkl (by rw [HT.out, ← Lib.size_eq]; exact h32))
    clear h32 g1
    go_wp2_with fail
    go_quiet (fail)
    go_wp2
    go_ret
    exact ⟨ret_val (congrArg Value.bool HS.out.symm), below_drewN (below_drewN (Below.refl _ _) _) _⟩
  ·have HS := Lib.hid (fitO_all HF.out (by rw [List.length_map]; omega))
   have hge : decide ((k : Int) < (L.length : Int)) = false := by simp; omega
   go_wp2
   go_ret
   exact ⟨ret_val (congrArg Value.bool HS.out.symm), below_drewN (Below.refl _ _) _⟩
def AddTo (l : List Txt) (x : Txt) (k : Nat) (d : Bool) (out : List Txt) : Prop := out.length = k + (if d then 1 else 0) ∧ out ++ (if d then l.drop k else ins (l.drop k) x) = ins l x
theorem addTo_zero (l : List Txt) (x : Txt) : AddTo l x 0 false [] := ⟨by simp, by simp⟩
theorem addTo_len {l : List Txt} {x : Txt} {k : Nat} {d : Bool} {out : List Txt} (h : AddTo l x k d out) : out.length ≤ k + 1 := by have := h.1; split at this <;> omega
theorem addTo_done {l : List Txt} {x : Txt} {k : Nat} {out : List Txt} (h : AddTo l x k true out) (hk : k < l.length) : AddTo l x (k + 1) true (out ++ [l[k]]) :=
 ⟨by have := h.1; simp at this ⊢; omega, by have := h.2; rw [if_pos rfl, List.drop_eq_getElem_cons hk] at this; rw [if_pos rfl, List.append_assoc]; exact this⟩
theorem addTo_here {l : List Txt} {x : Txt} {k : Nat} {out : List Txt} (h : AddTo l x k false out) (hk : k < l.length) (hx : x < l[k]) : AddTo l x (k + 1) true ((out ++ [x]) ++ [l[k]]) :=
 ⟨by have := h.1; simp at this ⊢; omega, by
  have := h.2; rw [if_neg (by simp), List.drop_eq_getElem_cons hk, ins, if_pos hx] at this
  rw [if_pos rfl, List.append_assoc, List.append_assoc]; exact this⟩
theorem addTo_past {l : List Txt} {x : Txt} {k : Nat} {out : List Txt} (h : AddTo l x k false out) (hk : k < l.length) (hx : ¬ x < l[k]) : AddTo l x (k + 1) false (out ++ [l[k]]) :=
 ⟨by have := h.1; simp at this ⊢; omega, by
  have := h.2; rw [if_neg (by simp), List.drop_eq_getElem_cons hk, ins, if_neg hx] at this
  rw [if_neg (by simp), List.append_assoc]; exact this⟩
theorem addTo_end {l : List Txt} {x : Txt} {k : Nat} {d : Bool} {out : List Txt} (h : AddTo l x k d out) (hk : l.length ≤ k) : out ++ (if d then [] else [x]) = ins l x := by
 have := h.2
 rw [List.drop_eq_nil_of_le hk] at this
 cases d <;> simpa [ins] using this
def OfTo (l : List Txt) (k : Nat) : List Txt := ((l.take k).filter isK).foldl addL []
theorem ofTo_step {l : List Txt} {k : Nat} (hk : k < l.length) : OfTo l (k + 1) = if l[k].length = 32 then addL (OfTo l k) l[k] else OfTo l k := by
 unfold OfTo
 rw [List.take_succ_eq_append_getElem hk, List.filter_append]
 by_cases h : l[k].length = 32 <;> simp [h, isK]
theorem ofTo_len (l : List Txt) (k : Nat) : (OfTo l k).length ≤ k := by
 have h1 := adds_len ((l.take k).filter isK) []
 have h2 := List.length_filter_le isK (l.take k)
 have h3 := List.length_take_le k l
 unfold OfTo; simp at h1; omega
def sizeO (O : List Ob) : Nat := (O.map fun x => x.r.size).sum
def small13 (O : List Ob) : Prop := O.length ≤ 120 ∧ sizeO O ≤ 20000 ∧ (∀ x ∈ O, x.k.size ≤ 100) ∧ FitO O
noncomputable def small13B (O : List Ob) : Bool := @decide (small13 O) (Classical.propDecidable _)
theorem small13_yes {O : List Ob} (h : small13 O) : small13B O = true := @decide_eq_true _ (Classical.propDecidable _) h
theorem small13_no {O : List Ob} (h : ¬ small13 O) : small13B O = false := @decide_eq_false _ (Classical.propDecidable _) h
theorem small13_iff {O : List Ob} : small13B O = true ↔ small13 O := ⟨fun h => @of_decide_eq_true _ (Classical.propDecidable _) h, small13_yes⟩
theorem sizeO_step {O : List Ob} {k : Nat} (hk : k < O.length) : sizeO (O.take (k + 1)) = sizeO (O.take k) + O[k].r.size := by
 unfold sizeO
 rw [List.take_succ_eq_append_getElem hk, List.map_append, List.sum_append]; simp
theorem sizeO_take (O : List Ob) (k : Nat) : sizeO (O.take k) ≤ sizeO O := by
 have h := List.take_append_drop k O
 unfold sizeO
 conv => rhs; rw [← h, List.map_append, List.sum_append]
 omega
end Go.Proofs.YtokknppjeckppaaGreatDoor
set_option linter.unusedVariables false
namespace Go.Proofs.YtokknppjeckppaaGreatDoor
open Go.ChangeShapes Go.WideShapes Go.ChangeAt Go.RowKit Go.Joins Go.Deep
set_option maxRecDepth 100000 in
set_option maxHeartbeats 2000000 in
theorem trod_objZ {H : Type} {enc : TypeId × Value → H} {W : World} {base n : Nat} {spare : Nat → Bool} {held : Bool} {cs : List Value} {y : DataW H × List MemPlace}
  (hl : cs.length = 2) (h : DataW.trod enc Tryz.prog W base spare held n 61 cs = some y) : ∃ x : Ob, cs = obC x ∧ x.k.size ∈ y.1.weights Tryz.prog 61 ∧ x.r.size ∈ y.1.weights Tryz.prog 61 := by
 match cs, hl with
 | [c0, c1], _ =>
  obtain ⟨xs, m, _, hy, _, hlen, hg⟩ := DataW.trod_struct Tryz.underlying61 h
  have k9 : Tryz.prog.cellsOf 9 = 1 := by kernel_rfl
  match xs, hlen with
  | [y0, y1], _ =>
   have h0 : DataW.trod enc Tryz.prog W base spare held m 9 [c0] = some y0 := by simpa [k9] using hg 0 _ rfl
   have h1 : DataW.trod enc Tryz.prog W base spare held m 9 [c1] = some y1 := by simpa [k9] using hg 1 _ rfl
   obtain ⟨s0, e0, z0, _⟩ := DataW.trod_string Tryz.underlying9 h0
   obtain ⟨s1, e1, z1, _⟩ := DataW.trod_string Tryz.underlying9 h1
   simp at e0 e1
   subst e0 e1
   have hw : y.1.weights Tryz.prog 61 = DataW.weightsEach Tryz.prog ((Tryz.prog.fieldsOf 61).toList.map (·.type)) [y0.1, y1.1] := by
    rw [hy]
    simp only [DataW.weights, Tryz.underlying61, Program.fieldsOf, List.map_cons, List.map_nil]
   refine ⟨⟨s0, s1⟩, rfl, ?_, ?_⟩
   ·rw [hw]
    exact DataW.weights_mem_each (j := 0) (t := 9) (d := y0.1) (by kernel_rfl) rfl _ (by rw [z0, Lib.size_eq]; simp only [DataW.weights, List.mem_singleton])
   ·rw [hw]
    exact DataW.weights_mem_each (j := 1) (t := 9) (d := y1.1) (by kernel_rfl) rfl _ (by rw [z1, Lib.size_eq]; simp only [DataW.weights, List.mem_singleton])
set_option maxRecDepth 100000 in
theorem open_objsZ {H : Type} {enc : TypeId × Value → H} {W : World} {r : Reach} {b0 : Nat} {spare : Nat → Bool} {held : Bool} {v : Value} {d : DataW H} {ps : List MemPlace}
  (hval : Value.okWide Tryz.prog W r b0 22 v) (h : DataW.Trod enc Tryz.prog W 0 spare held 22 v d ps) (hw : ∀ n ∈ d.weights Tryz.prog 22, n ≤ reachBytes) : ∃ L, IsObs W v L ∧ ∀ x ∈ L, x.k.size ≤ reachBytes ∧ x.r.size ≤ reachBytes := by
 obtain ⟨a0, len, cap, rfl⟩ := okWide_slice Tryz.underlying22 hval
 obtain ⟨fuel, hf⟩ := h
 have hC : Tryz.prog.cellsOf 61 = 2 := by kernel_rfl
 rcases open_slice Tryz.underlying22 hf with ⟨hcs, _⟩ | ⟨a, len', cap', m, n, D, Pl, hcs, _, hl, hm, hmm, hdd, hi⟩
 ·simp [Value.cells] at hcs
  obtain ⟨rfl, rfl, rfl⟩ := hcs
  exact ⟨[], obs_nil W, fun x hx => (by cases hx)⟩
 ·simp [Value.cells] at hcs
  obtain ⟨rfl, rfl, rfl⟩ := hcs
  have hlm : len ≤ m := by rw [hmm]; split <;> omega
  have hit : ∀ i, i < len → ∃ x : Ob, (∀ j u, (obC x)[j]? = some u → W.cell? (a.add (i * 2 + j)) = some u) ∧ x.k.size ≤ reachBytes ∧ x.r.size ≤ reachBytes := fun i him => by
   obtain ⟨cs, hc, ht⟩ := hi i (by omega)
   rw [hC] at hc
   obtain ⟨_, hcl, hat⟩ := World.cells?_some hc
   obtain ⟨x, rfl, hz1, hz2⟩ := trod_objZ hcl ht
   have hwd : ∀ n ∈ (D i).weights Tryz.prog 61, n ≤ reachBytes := fun n hn => hw n (by
    have hd1 : d = (.slice ((List.range len).map D) ((List.range (m - len)).map fun j => D (len + j)) : DataW H) := congrArg Prod.fst hdd
    rw [hd1]
    simp only [DataW.weights, Tryz.underlying22, List.mem_cons, List.mem_append]
    exact .inr (.inl (all_mem (List.mem_map.2 ⟨i, List.mem_range.2 him, rfl⟩) n hn)))
   refine ⟨x, fun j u hj => ?_, hwd _ hz1, hwd _ hz2⟩
   have hj4 : j < 2 := by
    have := (List.getElem?_eq_some_iff.1 hj).1
    simpa using this
   have := hat j hj4
   rw [← Go.Deep.add_add, this]; exact hj
  obtain ⟨f, hfx⟩ : ∃ f : Nat → Ob, ∀ i, i < len → (∀ j u, (obC (f i))[j]? = some u → W.cell? (a.add (i * 2 + j)) = some u) ∧ (f i).k.size ≤ reachBytes ∧ (f i).r.size ≤ reachBytes := by
   refine ⟨fun i => if h : i < len then Classical.choose (hit i h) else zeroOb, fun i h => ?_⟩
   simp only [h, dif_pos]
   exact Classical.choose_spec (hit i h)
  refine ⟨(List.range len).map f, ⟨by simp; omega, some a, cap, by simp, ⟨fun h => (by cases h), by simpa using hl⟩, fun h0 => ?_⟩, fun x hx => (by
   obtain ⟨i, hi2, rfl⟩ := List.mem_map.1 hx
   exact (hfx i (List.mem_range.1 hi2)).2)⟩
  have h0' : 0 < len := by simpa using h0
  have hc0 := (hfx 0 h0').1 0 _ rfl
  obtain ⟨b, off, spot⟩ := a
  have hspot : spot = none := by simpa [Addr.add] using World.cell?_spot hc0
  subst hspot
  refine ⟨b, off, rfl, ?_, fun i hi => ?_⟩
  ·have := block_lt_of_cell hc0
   simpa [Addr.add] using this
  ·have hil : i < len := by simpa using hi
   have hg : ((List.range len).map f)[i] = f i := by simp
   rw [hg]
   have hh := fun j u hu => (hfx i hil).1 j u hu
   refine ⟨?_, ?_⟩
   ·have := hh 0 _ rfl; rw [add_plain'] at this; exact this
   ·have := hh 1 _ rfl; rw [add_plain', ← Nat.add_assoc] at this; exact this
end Go.Proofs.YtokknppjeckppaaGreatDoor
set_option linter.unusedVariables false
namespace Go.Proofs.YtokknppjeckppaaGreatDoor
def M64 : Nat := 18446744073709551616
def fld (n d : Nat) : Nat := n ^^^ n / 2 ^ d
def tabN (b : Nat) : Nat := fld (fld (fld ((b + 1) * 11400714819323198485 % M64) 30 * 13787848793156543929 % M64) 27 * 10723151780598845931 % M64) 31
theorem m64_pos : 0 < M64 := by decide
def rollN (h b : Nat) : Nat := (2 * h + tabN b) % M64
def hashF (h : Nat) (l : List UInt8) : Nat := l.foldl (fun h b => rollN h b.toNat) h
theorem rollN_lt (h b : Nat) : rollN h b < M64 := Nat.mod_lt _ m64_pos
theorem foldG_snoc (f : Nat → Nat → Nat) (h : Nat) (b : UInt8) (l : List UInt8) : List.foldl (fun h b => f h b.toNat) h (l ++ [b]) = f (List.foldl (fun h b => f h b.toNat) h l) b.toNat := by
 rw [List.foldl_append]; rfl
theorem hashF_snoc (h : Nat) (l : List UInt8) (b : UInt8) : hashF h (l ++ [b]) = rollN (hashF h l) b.toNat := foldG_snoc rollN h b l
def hs (at' : Nat) (l : List UInt8) : List (Nat × Nat) := (List.range l.length).map fun k => (at' + k, hashF 0 (l.take (k + 1)))
theorem hs_len (p : Nat) (l : List UInt8) : (hs p l).length = l.length := by simp [hs]
theorem hs_get (p : Nat) (l : List UInt8) (k : Nat) (h : k < l.length) : (hs p l)[k]? = some (p + k, hashF 0 (l.take (k + 1))) := by
 simp [hs, List.getElem?_range h]
theorem hs_take (p : Nat) (l : List UInt8) (n : Nat) : (hs p l).take n = hs p (l.take n) := by
 apply List.ext_getElem?
 intro i
 by_cases h : i < n ∧ i < l.length
 ·rw [List.getElem?_take, if_pos h.1, hs_get p l i h.2, hs_get p (l.take n) i (by rw [List.length_take]; omega), List.take_take, Nat.min_eq_left (by omega)]
 ·rw [List.getElem?_eq_none (by rw [List.length_take, hs_len]; omega), List.getElem?_eq_none (by rw [hs_len, List.length_take]; omega)]
theorem hs_app (p : Nat) (l q : List UInt8) : hs p l <+: hs p (l ++ q) := by
 have := hs_take p (l ++ q) l.length
 rw [List.take_append_of_le_length (Nat.le_refl _), List.take_length] at this
 rw [← this]
 exact List.take_prefix _ _
theorem hs_snoc (p : Nat) (l : List UInt8) (k : Nat) (h : k < l.length) : hs p (l.take (k + 1)) = hs p (l.take k) ++ [(p + k, hashF 0 (l.take (k + 1)))] := by
 rw [← hs_take, ← hs_take, List.take_add_one, hs_get p l k h]; rfl
theorem hs_mem {p : Nat} {l : List UInt8} {y : Nat × Nat} (h : y ∈ hs p l) : ∃ k, k < l.length ∧ y = (p + k, hashF 0 (l.take (k + 1))) := by
 simp only [hs, List.mem_map, List.mem_range] at h
 obtain ⟨k, hk, rfl⟩ := h
 exact ⟨k, hk, rfl⟩
def stopB (b : Nat) (y : Nat × Nat) : Bool := decide (y.2 < 2 ^ (64 - (if y.1 < 2 ^ b then b + 1 else b - 1)))
def cutFrom (b p : Nat) (l : List UInt8) : Nat := (((hs p l).find? (stopB b)).map (·.1 + 1)).getD (p + l.length)
theorem cutFrom_none {b p : Nat} {l : List UInt8} (h : ∀ y ∈ hs p l, stopB b y = false) : cutFrom b p l = p + l.length := by
 have : (hs p l).find? (stopB b) = none := by
  rw [List.find?_eq_none]; intro y hy; rw [h y hy]; simp
 rw [cutFrom, this]; rfl
theorem cutFrom_stop {b p : Nat} {l : List UInt8} {pre : List (Nat × Nat)} {x : Nat × Nat} (hp : pre ++ [x] <+: hs p l) (h : ∀ y ∈ pre, stopB b y = false) (hx : stopB b x = true) : cutFrom b p l = x.1 + 1 := by
 obtain ⟨r, hr⟩ := hp
 have : (hs p l).find? (stopB b) = some x := by
  rw [← hr, List.append_assoc, List.find?_append]
  have hn : pre.find? (stopB b) = none := by
   rw [List.find?_eq_none]; intro y hy; rw [h y hy]; simp
  rw [hn]
  simp [hx]
 rw [cutFrom, this]; rfl
theorem cutFrom_cases (b p : Nat) (l : List UInt8) : ((hs p l).find? (stopB b) = none ∧ cutFrom b p l = p + l.length) ∨ ∃ k, k < l.length ∧ (hs p l).find? (stopB b) = some (p + k, hashF 0 (l.take (k + 1))) ∧ cutFrom b p l = p + k + 1 := by
 unfold cutFrom
 rcases hf : (hs p l).find? (stopB b) with _ | y
 ·exact .inl ⟨rfl, rfl⟩
 ·obtain ⟨k, hk, rfl⟩ := hs_mem (List.mem_of_find?_eq_some hf)
  exact .inr ⟨k, hk, rfl, rfl⟩
theorem cutFrom_le (b p : Nat) (l : List UInt8) : cutFrom b p l ≤ p + l.length := by
 rcases cutFrom_cases b p l with ⟨_, h⟩ | ⟨k, hk, _, h⟩ <;> omega
theorem cutFrom_ge (b p : Nat) (l : List UInt8) : p ≤ cutFrom b p l := by
 rcases cutFrom_cases b p l with ⟨_, h⟩ | ⟨k, hk, _, h⟩ <;> omega
theorem cutFrom_app {b p : Nat} {l : List UInt8} (q : List UInt8) (h : cutFrom b p l < p + l.length) : cutFrom b p (l ++ q) = cutFrom b p l := by
 rcases cutFrom_cases b p l with ⟨_, h1⟩ | ⟨k, hk, hf, h1⟩
 ·omega
 ·obtain ⟨r, hr⟩ := hs_app p l q
  have : (hs p (l ++ q)).find? (stopB b) = some (p + k, hashF 0 (l.take (k + 1))) := by
   rw [← hr, List.find?_append, hf]; rfl
  rw [h1, cutFrom, this]; rfl
def cutN (mn b mx : Nat) (l : List UInt8) : Nat :=
 if (l.take mx).length ≤ mn then (l.take mx).length else cutFrom b mn ((l.take mx).drop mn)
theorem cutN_le (mn b mx : Nat) (l : List UInt8) : cutN mn b mx l ≤ l.length := by
 unfold cutN
 split
 ·rw [List.length_take]; omega
 ·have := cutFrom_le b mn ((l.take mx).drop mn)
  rw [List.length_drop, List.length_take] at this
  rename_i h; rw [List.length_take] at h
  omega
theorem cutN_max (mn b mx : Nat) (l : List UInt8) : cutN mn b mx l ≤ mx := by
 unfold cutN
 split
 ·rw [List.length_take]; omega
 ·have := cutFrom_le b mn ((l.take mx).drop mn)
  rw [List.length_drop, List.length_take] at this
  rename_i h; rw [List.length_take] at h
  omega
theorem cutN_pos {mn b mx : Nat} (h1 : 1 ≤ mn) (h2 : mn ≤ mx) {l : List UInt8} (hl : l ≠ []) : 1 ≤ cutN mn b mx l := by
 have := List.length_pos_iff.2 hl
 unfold cutN
 split
 ·rw [List.length_take]; omega
 ·have := cutFrom_ge b mn ((l.take mx).drop mn)
  omega
theorem cutN_min {mn b mx : Nat} (h2 : mn ≤ mx) {l : List UInt8} (h : cutN mn b mx l < l.length) : mn ≤ cutN mn b mx l := by
 revert h
 unfold cutN
 split
 ·rw [List.length_take]; omega
 ·intro _
  exact cutFrom_ge b mn ((l.take mx).drop mn)
theorem cutN_app {mn b mx : Nat} {l : List UInt8} (q : List UInt8) (h : cutN mn b mx l < l.length) : cutN mn b mx (l ++ q) = cutN mn b mx l := by
 by_cases hm : mx ≤ l.length
 ·unfold cutN; rw [List.take_append_of_le_length hm]
 ·have e1 : l.take mx = l := List.take_of_length_le (by omega)
  have e2 : (l ++ q).take mx = l ++ q.take (mx - l.length) := by rw [List.take_append, e1]
  unfold cutN at h ⊢
  rw [e1] at h ⊢
  rw [e2]
  by_cases hn : l.length ≤ mn
  ·rw [if_pos hn] at h; omega
  ·rw [if_neg hn] at h ⊢
   rw [if_neg (by rw [List.length_append]; omega), List.drop_append_of_le_length (by omega)]
   exact cutFrom_app _ (by rw [List.length_drop]; omega)
theorem cutN_none {mn b mx : Nat} {l : List UInt8} (h : ∀ y ∈ hs mn ((l.take mx).drop mn), stopB b y = false) : cutN mn b mx l = (l.take mx).length := by
 unfold cutN
 split
 ·rfl
 ·rw [cutFrom_none h, List.length_drop]; omega
theorem cutN_stop {mn b mx : Nat} {l : List UInt8} {pre : List (Nat × Nat)} {x : Nat × Nat} (hp : pre ++ [x] <+: hs mn ((l.take mx).drop mn)) (h : ∀ y ∈ pre, stopB b y = false) (hx : stopB b x = true) : cutN mn b mx l = x.1 + 1 := by
 have := hp.length_le
 rw [List.length_append, hs_len, List.length_drop, List.length_singleton] at this
 unfold cutN
 rw [if_neg (by omega), cutFrom_stop hp h hx]
def pcsK (c : List UInt8 → Nat) : Nat → List UInt8 → List (List UInt8)
 | 0, _ => []
 | n + 1, l => if l.isEmpty then [] else l.take (c l) :: pcsK c n (l.drop (c l))
def pcs (c : List UInt8 → Nat) (l : List UInt8) : List (List UInt8) := pcsK c l.length l
theorem pcsK_enough {c : List UInt8 → Nat} (hc : ∀ l, l ≠ [] → 1 ≤ c l) : ∀ (n m : Nat) (l : List UInt8), l.length ≤ n → l.length ≤ m → pcsK c n l = pcsK c m l
 | 0, 0, _, _, _ => rfl
 | 0, m + 1, l, h, _ => by
  obtain rfl : l = [] := List.length_eq_zero_iff.1 (by omega)
  rfl
 | n + 1, 0, l, _, h => by
  obtain rfl : l = [] := List.length_eq_zero_iff.1 (by omega)
  rfl
 | n + 1, m + 1, l, h1, h2 => by
  by_cases hl : l = []
  ·subst hl; rfl
  ·have hp := List.length_pos_iff.2 hl
   have := hc l hl
   simp only [pcsK]
   rw [pcsK_enough hc n m (l.drop (c l)) (by rw [List.length_drop]; omega) (by rw [List.length_drop]; omega)]
theorem pcs_nil (c : List UInt8 → Nat) : pcs c [] = [] := rfl
theorem pcs_cons {c : List UInt8 → Nat} (hc : ∀ l, l ≠ [] → 1 ≤ c l) {l : List UInt8} (hl : l ≠ []) : pcs c l = l.take (c l) :: pcs c (l.drop (c l)) := by
 have hp := List.length_pos_iff.2 hl
 have := hc l hl
 obtain ⟨n, hn⟩ : ∃ n, l.length = n + 1 := ⟨l.length - 1, by omega⟩
 unfold pcs
 rw [hn]
 simp only [pcsK]
 rw [if_neg (by simpa using hl), pcsK_enough hc n (l.drop (c l)).length (l.drop (c l)) (by rw [List.length_drop]; omega) (Nat.le_refl _)]
theorem pcs_len {c : List UInt8 → Nat} (hc : ∀ l, l ≠ [] → 1 ≤ c l) : ∀ (n : Nat) (l : List UInt8), l.length ≤ n → (pcs c l).length ≤ l.length
 | 0, l, h => by
  obtain rfl : l = [] := List.length_eq_zero_iff.1 (by omega)
  exact Nat.le_refl _
 | n + 1, l, h => by
  by_cases hl : l = []
  ·subst hl; exact Nat.le_refl _
  ·have hp := List.length_pos_iff.2 hl
   have := hc l hl
   have := pcs_len hc n (l.drop (c l)) (by rw [List.length_drop]; omega)
   rw [pcs_cons hc hl, List.length_cons]
   rw [List.length_drop] at this
   omega
theorem pcs_flat {c : List UInt8 → Nat} (hc : ∀ l, l ≠ [] → 1 ≤ c l) : ∀ (n : Nat) (l : List UInt8), l.length ≤ n → (pcs c l).flatten = l
 | 0, l, h => by
  obtain rfl : l = [] := List.length_eq_zero_iff.1 (by omega)
  rfl
 | n + 1, l, h => by
  by_cases hl : l = []
  ·subst hl; rfl
  ·have hp := List.length_pos_iff.2 hl
   have := hc l hl
   rw [pcs_cons hc hl, List.flatten_cons, pcs_flat hc n (l.drop (c l)) (by rw [List.length_drop]; omega), List.take_append_drop]
structure CutOk (mn mx : Nat) (c : List UInt8 → Nat) : Prop where
 pos : ∀ l, l ≠ [] → 1 ≤ c l
 le : ∀ l, c l ≤ l.length
 max : ∀ l, c l ≤ mx
 min : ∀ l, c l < l.length → mn ≤ c l
 app : ∀ l q, c l < l.length → c (l ++ q) = c l
theorem cutN_ok {mn b mx : Nat} (h1 : 1 ≤ mn) (h2 : mn ≤ mx) : CutOk mn mx (cutN mn b mx) :=
 ⟨fun _ => cutN_pos h1 h2, cutN_le _ _ _, cutN_max _ _ _, fun _ => cutN_min h2, fun _ q h => cutN_app q h⟩
theorem pcs_each {mn mx : Nat} {c : List UInt8 → Nat} (H : CutOk mn mx c) : ∀ (n : Nat) (l : List UInt8), l.length ≤ n → ∀ (i : Nat) (x : List UInt8), (pcs c l)[i]? = some x → 1 ≤ x.length ∧ x.length ≤ mx ∧ (i + 1 < (pcs c l).length → mn ≤ x.length)
 | 0, l, h, i, x, hx => by
  obtain rfl : l = [] := List.length_eq_zero_iff.1 (by omega)
  rw [pcs_nil] at hx; simp at hx
 | n + 1, l, h, i, x, hx => by
  by_cases hl : l = []
  ·subst hl; rw [pcs_nil] at hx; simp at hx
  ·have hp := List.length_pos_iff.2 hl
   have h1 := H.pos l hl
   have h2 := H.le l
   have h3 := H.max l
   rw [pcs_cons H.pos hl] at hx ⊢
   cases i with
   | zero =>
    simp only [List.getElem?_cons_zero, Option.some.injEq] at hx
    subst hx
    have e : (l.take (c l)).length = c l := by rw [List.length_take]; omega
    refine ⟨by omega, by omega, fun hi => ?_⟩
    rw [e]
    refine H.min l ?_
    by_cases hd : c l < l.length
    ·exact hd
    ·have : l.drop (c l) = [] := List.drop_of_length_le (by omega)
     rw [this, pcs_nil] at hi; simp at hi
   | succ i =>
    rw [List.getElem?_cons_succ] at hx
    obtain ⟨g1, g2, g3⟩ := pcs_each H n (l.drop (c l)) (by rw [List.length_drop]; omega) i x hx
    refine ⟨g1, g2, fun hi => g3 ?_⟩
    rw [List.length_cons] at hi; omega
structure FitAt (mn av mx : Int) (b : Nat) : Prop where
 h1 : 1 ≤ mn
 h2 : mn ≤ av
 h3 : av ≤ mx
 h4 : mx ≤ 4096
 h5 : 1 ≤ b
 h6 : b ≤ 12
 h7 : av = ((2 ^ b : Nat) : Int)
theorem FitAt.two {mn av mx : Int} {b : Nat} (h : FitAt mn av mx b) : 2 ≤ av := by
 rw [h.h7]
 have : 2 ^ 1 ≤ 2 ^ b := Nat.pow_le_pow_right (by decide) h.h5
 exact_mod_cast this
def fitB_Cdm (mn av mx : Int) : Bool := decide (∃ b, b < 13 ∧ 1 ≤ mn ∧ mn ≤ av ∧ av ≤ mx ∧ mx ≤ 4096 ∧ 1 ≤ b ∧ av = ((2 ^ b : Nat) : Int))
theorem fitB_true_Cdm {mn av mx : Int} (h : fitB_Cdm mn av mx = true) : ∃ b, FitAt mn av mx b := by
 obtain ⟨b, h0, h1, h2, h3, h4, h5, h6⟩ := of_decide_eq_true h
 exact ⟨b, h1, h2, h3, h4, h5, by omega, h6⟩
theorem fitB_of {mn av mx : Int} {b : Nat} (h : FitAt mn av mx b) : fitB_Cdm mn av mx = true :=
 decide_eq_true ⟨b, by have := h.h6; omega, h.h1, h.h2, h.h3, h.h4, h.h5, h.h7⟩
theorem fitB_not {mn av mx : Int} (h : fitB_Cdm mn av mx = false) : ∀ b, ¬ FitAt mn av mx b := fun b hb => by
 rw [fitB_of hb] at h; cases h
end Go.Proofs.YtokknppjeckppaaGreatDoor
set_option linter.unusedVariables false
namespace Go.Proofs.YtokknppjeckppaaGreatDoor
open Go.RowKit
theorem wrapU (n : Nat) : IntKind.u64.wrap (n : Int) = ((n % M64 : Nat) : Int) := by
 rw [Int.natCast_emod]; rfl
theorem wrapU_mul (n c : Nat) : IntKind.u64.wrap ((n : Int) * (c : Int)) = ((n * c % M64 : Nat) : Int) := by
 rw [← Int.natCast_mul, wrapU]
theorem wrapU_add (n c : Nat) : IntKind.u64.wrap ((n : Int) + (c : Int)) = (((n + c) % M64 : Nat) : Int) := by
 rw [← Int.natCast_add, wrapU]
theorem xorDown (n d : Nat) (h : n < M64) : bits .xor .u64 (n : Int) ((n : Int) / 2 ^ d) = ((fld n d : Nat) : Int) := by
 rw [show (n : Int) / 2 ^ d = ((n / 2 ^ d : Nat) : Int) by rw [Int.natCast_ediv, Int.natCast_pow]; rfl,
  u64_xor_nat _ _ h (Nat.lt_of_le_of_lt (Nat.div_le_self _ _) h)]
 rfl
theorem first_mul (b : Nat) (hb : b < 256) : IntKind.u64.wrap (IntKind.u64.wrap (IntKind.u64.wrap (b : Int) + 1) * 11400714819323198485) = (((b + 1) * 11400714819323198485 % M64 : Nat) : Int) := by
 have h1 : IntKind.u64.wrap (b : Int) = (b : Int) := by rw [wrapU, Nat.mod_eq_of_lt (by unfold M64; omega)]
 have h2 : IntKind.u64.wrap ((b : Int) + 1) = ((b + 1 : Nat) : Int) := by
  have := wrapU_add b 1; rw [Nat.mod_eq_of_lt (by unfold M64; omega)] at this; exact this
 rw [h1, h2]
 exact wrapU_mul (b + 1) 11400714819323198485
set_option maxRecDepth 100000 in
set_option maxHeartbeats 1000000 in
theorem refTable_any (b : UInt8) (w : World) : Calls Tryz.prog 145 #[.int .u8 b.toNat] w fun e w' => e = .returned (.int .u64 (tabN b.toNat)) ∧ w = w' := by
 go_enter Tryz.func145, Tryz.ntmps145
 go_wp2
 go_ret
 refine ⟨ret_i ?_, rfl⟩
 rw [first_mul _ b.toNat_lt]
 unfold tabN
 obtain ⟨n, hn⟩ : ∃ n, n = (b.toNat + 1) * 11400714819323198485 % M64 := ⟨_, rfl⟩
 have ln : n < M64 := by rw [hn]; exact Nat.mod_lt _ m64_pos
 rw [← hn]
 clear hn
 have e1 := xorDown n 30 ln
 rw [show (2 : Int) ^ 30 = 1073741824 by decide] at e1
 rw [e1]
 have m1 := wrapU_mul (fld n 30) 13787848793156543929
 rw [show ((13787848793156543929 : Nat) : Int) = 13787848793156543929 from rfl] at m1
 rw [m1]
 obtain ⟨p, hp⟩ : ∃ p, p = fld n 30 * 13787848793156543929 % M64 := ⟨_, rfl⟩
 have lp : p < M64 := by rw [hp]; exact Nat.mod_lt _ m64_pos
 rw [← hp]
 clear hp e1 m1
 have e1 := xorDown p 27 lp
 rw [show (2 : Int) ^ 27 = 134217728 by decide] at e1
 rw [e1]
 have m1 := wrapU_mul (fld p 27) 10723151780598845931
 rw [show ((10723151780598845931 : Nat) : Int) = 10723151780598845931 from rfl] at m1
 rw [m1]
 obtain ⟨q, hq⟩ : ∃ q, q = fld p 27 * 10723151780598845931 % M64 := ⟨_, rfl⟩
 have lq : q < M64 := by rw [hq]; exact Nat.mod_lt _ m64_pos
 rw [← hq]
 exact xorDown q 31 lq
theorem roll_int (h : Nat) (b : Nat) : IntKind.u64.wrap (IntKind.u64.wrap (2 * (h : Int)) + (tabN b : Nat)) = ((rollN h b : Nat) : Int) := by
 have h1 := wrapU_mul 2 h
 rw [show ((2 : Nat) : Int) = 2 from rfl] at h1
 rw [h1, wrapU_add, Nat.mod_add_mod]
 rfl
set_option maxRecDepth 100000 in
set_option maxHeartbeats 1000000 in
theorem refRoll_any (h : Nat) (b : UInt8) (w : World) : Calls Tryz.prog 122 #[.int .u64 h, .int .u8 b.toNat] w fun e w' => e = .returned (.int .u64 (rollN h b.toNat)) ∧ w = w' := by
 go_enter Tryz.func122, Tryz.ntmps122
 go_wp2_with fail
 refine (refTable_any b _).mono ?_
 rintro e w1 ⟨rfl, rfl⟩
 go_wp2
 go_ret
 exact ⟨ret_i (roll_int _ _), rfl⟩
theorem ext_take (s : ByteArray) (c : Nat) : (s.extract 0 c).data.toList = s.data.toList.take c := by simp
def PowR (n r : Int) : Prop := (∃ k : Nat, k < 30 ∧ n = ((2 ^ k : Nat) : Int) ∧ r = k) ∨ (r = -1 ∧ ∀ k : Nat, k < 30 → n ≠ ((2 ^ k : Nat) : Int))
def RetPow (n : Int) (w : World) (e : Ending) (w' : World) : Prop := ∃ r, e = .returned (.int .i64 r) ∧ PowR n r ∧ w = w'
theorem wrap_pow {k : Nat} (h : k < 30) : wrap64 ((2 : Int) ^ k) = ((2 ^ k : Nat) : Int) := by
 have : ∀ k : Fin 30, wrap64 ((2 : Int) ^ k.val) = ((2 ^ k.val : Nat) : Int) := by decide +kernel
 exact this ⟨k, h⟩
def NoPow (n : Int) (k : Nat) : Prop := ∀ j : Nat, j < k → n ≠ ((2 ^ j : Nat) : Int)
set_option maxRecDepth 100000 in
set_option maxHeartbeats 1000000 in
theorem power_any (n : Int) (w : World) : Calls Tryz.prog 83 #[.int .i64 n] w (RetPow n w) := by
 go_enter Tryz.func83, Tryz.ntmps83
 go_wp2
 go_loop [3] (fun i => ∃ k : Nat, k ≤ 30 ∧ i = .int .i64 k ∧ NoPow n k) (fun i => 30 - (intOf i).toNat)
 case atStart => exact ⟨0, by omega, rfl, fun j hj => absurd hj (by omega)⟩
 case round =>
  obtain ⟨k, hk, rfl, hno⟩ := hrel
  by_cases hlt : k < 30
  ·have E := Lib.hid (wrap_pow hlt)
   by_cases hv : (n == wrap64 ((2 : Int) ^ k)) = true
   ·have HV := Lib.hid hv
    go_wp2
    go_ret
    exact ⟨_, rfl, .inl ⟨k, hlt, by have := eq_of_beq HV.out; rw [E.out] at this; exact this, rfl⟩, rfl⟩
   ·have hv' : (n == wrap64 ((2 : Int) ^ k)) = false := by simpa using hv
    have HV := Lib.hid hv'
    clear hv
    go_wp2
    go_round
    case rel =>
     refine ⟨k + 1, by omega, by go_num, fun j hj => ?_⟩
     by_cases hjk : j = k
     ·subst hjk
      intro e
      rw [← E.out] at e
      rw [e] at HV
      have := HV.out
      simp at this
     ·exact hno j (by omega)
    case measure => simp [intOf]; omega
  ·obtain rfl : k = 30 := by omega
   go_wp2
   go_ret
   exact ⟨_, rfl, .inr ⟨rfl, hno⟩, rfl⟩
def blankN (h k : Nat) : Bool := decide (h < 2 ^ (64 - k))
theorem blank_int (h k : Nat) : ((h : Int) / 2 ^ (64 - k) == 0) = blankN h k := by
 have e : ((h : Int) / 2 ^ (64 - k)) = ((h / 2 ^ (64 - k) : Nat) : Int) := by rw [Int.natCast_ediv, Int.natCast_pow]; rfl
 rw [e, Bool.eq_iff_iff, beq_iff_eq, blankN, decide_eq_true_iff]
 have hp : 0 < 2 ^ (64 - k) := Nat.pow_pos (by decide)
 rw [show ((0 : Int)) = ((0 : Nat) : Int) from rfl, Int.natCast_inj, Nat.div_eq_zero_iff]
 omega
set_option maxRecDepth 100000 in
set_option maxHeartbeats 1000000 in
theorem blank_any (h k : Nat) (hh : h < M64) (hk : k ≤ 13) (w : World) : Calls Tryz.prog 123 #[.int .u64 h, .int .i64 k] w fun e w' => e = .returned (.bool (blankN h k)) ∧ w = w' := by
 by_cases h0 : k = 0
 ·subst h0
  have hb : blankN h 0 = true := decide_eq_true hh
  have HB := Lib.hid hb; clear hb
  go_enter Tryz.func123, Tryz.ntmps123
  go_wp2
  go_ret
  rw [HB.out]
  exact ⟨rfl, rfl⟩
 ·have hk0 : (((k : Nat) : Int) == 0) = false := beq_eq_false_iff_ne.2 (by omega)
  have HH := Lib.hid hh; clear hh
  go_enter Tryz.func123, Tryz.ntmps123
  go_wp2
  go_ret
  rw [blank_int]
  exact ⟨rfl, rfl⟩
abbrev pV (mn av mx : Int) : Value := .agg #[.int .i64 mn, .int .i64 av, .int .i64 mx]
set_option maxRecDepth 100000 in
set_option maxHeartbeats 2000000 in
theorem refFit_any_Cdw (mn av mx : Int) (w : World) : Calls Tryz.prog 57 #[pV mn av mx] w fun e w' => e = .returned (.bool (fitB_Cdm mn av mx)) ∧ Below w.heap.size w w' := by
 have key : ∀ v : Bool, fitB_Cdm mn av mx = v → Calls Tryz.prog 57 #[pV mn av mx] w fun e w' => e = .returned (.bool v) ∧ Below w.heap.size w w' := by
  intro v hv
  have HV := Lib.hid hv
  clear hv
  by_cases g1 : 1 ≤ mn
  ·by_cases g2 : 2 ≤ av
   ·have P := Lib.hid (power_any av)
    go_enter Tryz.func57, Tryz.ntmps57
    go_wp2_with fail
    refine (P.out _).mono ?_
    rintro e w1 ⟨r, rfl, hr, rfl⟩
    clear P
    by_cases h1 : 0 < r ∧ mn ≤ av ∧ av ≤ mx ∧ mx ≤ 4096
    ·obtain ⟨h1, h2, h3, h4⟩ := h1
     obtain rfl : true = v := by
      rcases hr with ⟨k, hk, e, rfl⟩ | ⟨rfl, _⟩
      ·have h13 : k < 13 := by
        apply Nat.lt_of_not_le; intro hle
        have : 2 ^ 13 ≤ 2 ^ k := Nat.pow_le_pow_right (by decide) hle
        have : (2 ^ 13 : Nat) ≤ 4096 := by
         have e2 : ((2 ^ k : Nat) : Int) ≤ 4096 := by rw [← e]; omega
         have e3 : (2 ^ k : Nat) ≤ 4096 := by exact_mod_cast e2
         omega
        exact absurd this (by decide)
       exact (fitB_of ⟨g1, h2, h3, h4, by omega, by omega, e⟩).symm.trans HV.out
      ·omega
     clear hr
     go_wp2
     go_ret
     exact ⟨rfl, (Below.refl _ _).alloc (Nat.le_refl _) _⟩
    ·obtain rfl : false = v := by
      rcases hc : v with _ | _
      ·rfl
      ·obtain ⟨b, hb⟩ := fitB_true_Cdm (HV.out.trans hc)
       refine absurd ⟨?_, hb.h2, hb.h3, hb.h4⟩ h1
       rcases hr with ⟨k, hk, e, rfl⟩ | ⟨rfl, hn⟩
       ·rcases k with _ | k
        ·rw [e] at g2; simp at g2
        ·omega
       ·exact absurd hb.h7 (hn b (by have := hb.h6; omega))
     clear hr
     by_cases q1 : 0 < r
     ·by_cases q2 : mn ≤ av
      ·by_cases q3 : av ≤ mx
       ·have q4 : ¬ mx ≤ 4096 := fun q4 => h1 ⟨q1, q2, q3, q4⟩
        have d4 : decide (mx ≤ 4096) = false := decide_eq_false q4
        clear h1
        go_wp2
        go_ret
        exact ⟨rfl, (Below.refl _ _).alloc (Nat.le_refl _) _⟩
       ·clear h1
        go_wp2
        go_ret
        exact ⟨rfl, (Below.refl _ _).alloc (Nat.le_refl _) _⟩
      ·clear h1
       go_wp2
       go_ret
       exact ⟨rfl, (Below.refl _ _).alloc (Nat.le_refl _) _⟩
     ·clear h1
      go_wp2
      go_ret
      exact ⟨rfl, (Below.refl _ _).alloc (Nat.le_refl _) _⟩
   ·obtain rfl : false = v := by
     rcases hc : v with _ | _
     ·rfl
     ·obtain ⟨b, hb⟩ := fitB_true_Cdm (HV.out.trans hc)
      exact absurd hb.two g2
    go_enter Tryz.func57, Tryz.ntmps57
    go_wp2
    go_ret
    exact ⟨rfl, (Below.refl _ _).alloc (Nat.le_refl _) _⟩
  ·obtain rfl : false = v := by
    rcases hc : v with _ | _
    ·rfl
    ·obtain ⟨b, hb⟩ := fitB_true_Cdm (HV.out.trans hc)
     exact absurd hb.h1 g1
   go_enter Tryz.func57, Tryz.ntmps57
   go_wp2
   go_ret
   exact ⟨rfl, (Below.refl _ _).alloc (Nat.le_refl _) _⟩
 exact key _ rfl
theorem stop_blank {b at' h : Nat} : stopB b (at', h) = blankN h (if at' < 2 ^ b then b + 1 else b - 1) := rfl
theorem upTo_on (s : ByteArray) (p j : Nat) (h0 : p ≤ j) (h : j < s.size) :
  (hs p (s.data.toList.drop p)).take (j + 1 - p) = (hs p (s.data.toList.drop p)).take (j - p) ++ [(j, rollN (hashF 0 ((s.data.toList.drop p).take (j - p))) (s[j]'h).toNat)] ∧ hashF 0 ((s.data.toList.drop p).take (j + 1 - p)) = rollN (hashF 0 ((s.data.toList.drop p).take (j - p))) (s[j]'h).toNat := by
 have hl : j - p < (s.data.toList.drop p).length := by rw [List.length_drop, ← Lib.size_eq]; omega
 have e1 : j + 1 - p = j - p + 1 := by omega
 have hx : (s.data.toList.drop p).take (j - p + 1) = (s.data.toList.drop p).take (j - p) ++ [s[j]'h] := by
  rw [List.take_succ_eq_append_getElem hl]
  congr 2
  simp only [List.getElem_drop]
  have : p + (j - p) = j := by omega
  simp only [this]; rfl
 have h2 : hashF 0 ((s.data.toList.drop p).take (j - p + 1)) = rollN (hashF 0 ((s.data.toList.drop p).take (j - p))) (s[j]'h).toNat := by rw [hx, hashF_snoc]
 rw [e1]
 refine ⟨?_, h2⟩
 have := hs_snoc p (s.data.toList.drop p) (j - p) hl
 rw [hs_take, hs_take, this, h2, show p + (j - p) = j by omega]
theorem power_of (b : Nat) (hb : b ≤ 12) (w : World) : Calls Tryz.prog 83 #[.int .i64 (2 ^ b : Nat)] w fun e w' => e = .returned (.int .i64 b) ∧ w = w' := by
 refine (power_any _ w).mono ?_
 rintro e w' ⟨r, rfl, hr, rfl⟩
 refine ⟨ret_i ?_, rfl⟩
 rcases hr with ⟨k, hk, e, rfl⟩ | ⟨_, hn⟩
 ·have h1 : (2 ^ b : Nat) = 2 ^ k := by exact_mod_cast e
  have : k = b := by
   rcases Nat.lt_trichotomy k b with h | h | h
   ·have := Nat.pow_lt_pow_right (a := 2) (by decide) h; omega
   ·exact h
   ·have := Nat.pow_lt_pow_right (a := 2) (by decide) h; omega
  rw [this]
 ·exact absurd rfl (hn b (by omega))
theorem hs_upto (mn mx : Nat) (s : ByteArray) : (hs mn (s.data.toList.drop mn)).take (min s.size mx - mn) = hs mn ((s.data.toList.take mx).drop mn) := by
 rw [hs_take, List.drop_take]
 congr 1
 rw [Lib.size_eq]
 by_cases h : s.data.toList.length ≤ mx
 ·rw [Nat.min_eq_left h, List.take_of_length_le (by rw [List.length_drop]; omega), List.take_of_length_le (by rw [List.length_drop]; omega)]
 ·rw [Nat.min_eq_right (by omega)]
def NoStop (b mn : Nat) (s : ByteArray) (j : Nat) : Prop := ∀ y ∈ (hs mn (s.data.toList.drop mn)).take (j - mn), stopB b y = false
set_option maxRecDepth 100000 in
set_option maxHeartbeats 4000000 in
theorem refCut_any (mn av b mx : Nat) (hF : FitAt mn av mx b) (s : ByteArray) (hs : s.size ≤ maxLen) (w : World) :
  Calls Tryz.prog 104 #[pV mn av mx, .string s] w fun e w' => e = .returned (.int .i64 (cutN mn b mx s.data.toList : Nat)) ∧ Below w.heap.size w w' := by
 obtain ⟨h1, h2, h3, h4, h5, h6, h7⟩ := hF
 have h7' : av = 2 ^ b := by exact_mod_cast h7
 have P := Lib.hid (power_of b h6)
 rw [← h7'] at P
 have H7 := Lib.hid h7'
 clear h7 h7'
 simp only [maxLen] at hs
 have hcI : (min (s.size : Int) (mx : Int)) = ((min s.size mx : Nat) : Int) := by omega
 have HCI := Lib.hid hcI
 clear hcI
 by_cases hsm : s.size ≤ mn
 ·have e1 : decide ((s.size : Int) ≤ (mn : Int)) = true := by simpa using hsm
  have hcut : cutN mn b mx s.data.toList = s.size := by
   unfold cutN
   rw [if_pos (by rw [List.length_take, ← Lib.size_eq]; omega), List.length_take, ← Lib.size_eq]; omega
  have HCU := Lib.hid hcut; clear hcut
  go_enter Tryz.func104, Tryz.ntmps104
  go_wp2
  go_ret
  exact ⟨by rw [HCU.out]; rfl, (Below.refl _ _).alloc (Nat.le_refl _) _⟩
 ·have e1 : decide ((s.size : Int) ≤ (mn : Int)) = false := by simp; omega
  go_enter Tryz.func104, Tryz.ntmps104
  go_wp2_with fail
  refine (P.out _).mono ?_
  rintro e w1 ⟨rfl, rfl⟩
  go_wp2_with fail
  rw [HCI.out]
  obtain ⟨c, hc⟩ : ∃ c : Nat, c = min s.size mx := ⟨_, rfl⟩
  rw [← hc]
  have hcs : c ≤ s.size := by omega
  have hcm : mn ≤ c := by omega
  have HC := Lib.hid hc
  clear hc HCI
  go_loop [7, 8] (fun h i => ∃ j : Nat, mn ≤ j ∧ j ≤ c ∧ i = .int .i64 j ∧ h = .int .u64 (hashF 0 ((s.data.toList.drop mn).take (j - mn)) : Nat) ∧ NoStop b mn s j) (fun _ i => c - (intOf i).toNat)
  case atStart => exact ⟨mn, Nat.le_refl _, hcm, rfl, by simp [hashF], fun y hy => by simp at hy⟩
  case round =>
   obtain ⟨j, hj1, hj2, rfl, rfl, hno⟩ := hrel
   have HNO := Lib.hid hno
   clear hno
   by_cases hlt : j < c
   ·have hlts : j < s.size := by omega
    obtain ⟨hup, hv⟩ := upTo_on s mn j hj1 hlts
    have RO := Lib.hid (refRoll_any (hashF 0 ((s.data.toList.drop mn).take (j - mn))) (s[j]'hlts))
    have hm0 := rollN_lt (hashF 0 ((s.data.toList.drop mn).take (j - mn))) (s[j]'hlts).toNat
    obtain ⟨hn, hhn⟩ : ∃ hn, hn = hashF 0 ((s.data.toList.drop mn).take (j - mn)) := ⟨_, rfl⟩
    rw [← hhn] at hv hup RO hm0 ⊢
    obtain ⟨hm, hhm⟩ : ∃ hm, hm = rollN hn (s[j]'hlts).toNat := ⟨_, rfl⟩
    rw [← hhm] at hv hup RO hm0
    have K1 := blank_any hm (b + 1) hm0 (by omega)
    have K2 := blank_any hm (b - 1) hm0 (by omega)
    rw [show ((b + 1 : Nat) : Int) = (b : Int) + 1 by omega] at K1
    rw [show ((b - 1 : Nat) : Int) = (b : Int) - 1 by omega] at K2
    have ST := stop_blank (b := b) (at' := j) (h := hm)
    rw [← H7.out] at ST
    obtain ⟨v1, hv1⟩ : ∃ v1, v1 = blankN hm (b + 1) := ⟨_, rfl⟩
    obtain ⟨v2, hv2⟩ : ∃ v2, v2 = blankN hm (b - 1) := ⟨_, rfl⟩
    rw [← hv1] at K1
    rw [← hv2] at K2
    have K1 := Lib.hid K1; have K2 := Lib.hid K2
    have HV := Lib.hid hv; have HUP := Lib.hid hup; have ST := Lib.hid ST
    have V1 := Lib.hid hv1; have V2 := Lib.hid hv2
    clear hhn hhm hv hup hv1 hv2
    have GO : Hid (stopB b (j, hm) = true → cutN mn b mx s.data.toList = j + 1) := fun hst => by
     refine cutN_stop (pre := (Go.Proofs.YtokknppjeckppaaGreatDoor.hs mn (s.data.toList.drop mn)).take (j - mn)) (x := (j, hm)) ?_ HNO.out hst
     rw [← HUP.out, ← hs_upto, ← HC.out, show j + 1 - mn = min (j + 1 - mn) (c - mn) by omega, ← List.take_take]
     exact List.take_prefix _ _
    have ON : Hid (stopB b (j, hm) = false → NoStop b mn s (j + 1)) := fun hst y hy => by
     rw [HUP.out] at hy
     rcases List.mem_append.1 hy with h | h
     ·exact HNO.out y h
     ·obtain rfl := List.mem_singleton.1 h; exact hst
    by_cases hav : j < av
    ·have e2 : decide ((j : Int) < (av : Int)) = true := by simpa using hav
     have e3 : decide ((av : Int) ≤ (j : Int)) = false := by simp; omega
     have ST2 : Hid (stopB b (j, hm) = v1) := by
      show _ = _
      rw [ST.out, if_pos hav, V1.out]
     rcases v1 with _ | _
     ·go_wp2_with fail
      refine (RO.out _).mono ?_
      rintro e w2 ⟨rfl, rfl⟩
      go_wp2_with fail
      refine (K1.out _).mono ?_
      rintro e w2 ⟨rfl, rfl⟩
      go_wp2
      go_round
      case rel => exact ⟨j + 1, by omega, by omega, by go_num, by rw [HV.out], ON.out ST2.out⟩
      case measure => simp [intOf]; omega
     ·have HCU := Lib.hid (GO.out ST2.out)
      go_wp2_with fail
      refine (RO.out _).mono ?_
      rintro e w2 ⟨rfl, rfl⟩
      go_wp2_with fail
      refine (K1.out _).mono ?_
      rintro e w2 ⟨rfl, rfl⟩
      go_wp2
      go_ret
      exact ⟨by rw [HCU.out]; exact ret_i (by omega), (Below.refl _ _).alloc (Nat.le_refl _) _⟩
    ·have e2 : decide ((j : Int) < (av : Int)) = false := by simp; omega
     have e3 : decide ((av : Int) ≤ (j : Int)) = true := by simp; omega
     have ST2 : Hid (stopB b (j, hm) = v2) := by
      show _ = _
      rw [ST.out, if_neg hav, V2.out]
     rcases v2 with _ | _
     ·go_wp2_with fail
      refine (RO.out _).mono ?_
      rintro e w2 ⟨rfl, rfl⟩
      go_wp2_with fail
      refine (K2.out _).mono ?_
      rintro e w2 ⟨rfl, rfl⟩
      go_wp2
      go_round
      case rel => exact ⟨j + 1, by omega, by omega, by go_num, by rw [HV.out], ON.out ST2.out⟩
      case measure => simp [intOf]; omega
     ·have HCU := Lib.hid (GO.out ST2.out)
      go_wp2_with fail
      refine (RO.out _).mono ?_
      rintro e w2 ⟨rfl, rfl⟩
      go_wp2_with fail
      refine (K2.out _).mono ?_
      rintro e w2 ⟨rfl, rfl⟩
      go_wp2
      go_ret
      exact ⟨by rw [HCU.out]; exact ret_i (by omega), (Below.refl _ _).alloc (Nat.le_refl _) _⟩
   ·obtain rfl : j = c := by omega
    have hcut : cutN mn b mx s.data.toList = j := by
     rw [cutN_none (by rw [← hs_upto, ← HC.out]; exact HNO.out), List.length_take, ← Lib.size_eq]
     have := HC.out; omega
    have HCU := Lib.hid hcut; clear hcut
    go_wp2
    go_ret
    exact ⟨by rw [HCU.out]; rfl, (Below.refl _ _).alloc (Nat.le_refl _) _⟩
def lenOf : Value → Nat
 | .string x => x.size
 | _ => 0
theorem str_nonempty (x : ByteArray) : (x.toList.isEmpty = false) = (0 < x.size) := by
 rw [eq_iff_iff]
 have : x.toList = x.data.toList := ByteArray.toList_eq x
 rw [this, Lib.size_eq]
 cases x.data.toList <;> simp
def RetPcs (c : List UInt8 → Nat) (l : List UInt8) (w : World) (e : Ending) (w' : World) : Prop := ∃ v, e = .returned v ∧ IsStrs w' v (strsOf (pcs c l)) ∧ Below w.heap.size w w'
def OnWay (c : List UInt8 → Nat) (l : List UInt8) (M : List (List UInt8)) (x : ByteArray) : Prop := M ++ pcs c x.data.toList = pcs c l
theorem onWay_step {mn mx : Nat} {c : List UInt8 → Nat} (H : CutOk mn mx c) {l : List UInt8} {M : List (List UInt8)} {x : ByteArray} (h : OnWay c l M x) (hx : 0 < x.size) :
  OnWay c l (M ++ [(x.extract 0 (c x.data.toList)).data.toList]) (x.extract (c x.data.toList) x.size) := by
 have hne : x.data.toList ≠ [] := fun e => by rw [Lib.size_eq, e] at hx; exact absurd hx (by simp)
 unfold OnWay at h ⊢
 rw [← h, pcs_cons H.pos hne, Lib.extract_to_end, ext_take, List.append_assoc]; rfl
theorem onWay_len {mn mx : Nat} {c : List UInt8 → Nat} (H : CutOk mn mx c) {l : List UInt8} {M : List (List UInt8)} {x : ByteArray} (h : OnWay c l M x) : M.length ≤ l.length := by
 have h1 := pcs_len H.pos l.length l (Nat.le_refl _)
 have h2 := congrArg List.length h
 rw [List.length_append] at h2
 omega
theorem onWay_end {c : List UInt8 → Nat} {l : List UInt8} {M : List (List UInt8)} {x : ByteArray} (h : OnWay c l M x) (hx : x.size = 0) : M = pcs c l := by
 have e : x.data.toList = [] := List.length_eq_zero_iff.1 (by rw [← Lib.size_eq]; exact hx)
 unfold OnWay at h
 rw [e, pcs_nil, List.append_nil] at h
 exact h
def RetPcsO (c : List UInt8 → Nat) (l : List UInt8) (w : World) (e : Ending) (w' : World) : Prop := ∃ v, e = .returned v ∧ OwnTxt w w' v (pcs c l) ∧ Below w.heap.size w w'
theorem OwnTxt.low {W V w : World} {v : Value} {M : List (List UInt8)} (h : OwnTxt V w v M) (hb : W.heap.size ≤ V.heap.size) : OwnTxt W w v M := by
 refine ⟨h.1, ?_⟩
 rcases h.2 with h2 | ⟨g, cap, cur, h3, h4, h5⟩
 ·exact .inl h2
 ·exact .inr ⟨g, cap, cur, h3, Nat.le_trans hb h4, h5⟩
set_option maxRecDepth 100000 in
set_option maxHeartbeats 4000000 in
theorem refPiecesO_any (mn av b mx : Nat) (hF : FitAt mn av mx b) (s : ByteArray) (hs : s.size ≤ 100000) (w : World) :
  Calls Tryz.prog 87 #[pV mn av mx, .string s] w (RetPcsO (cutN mn b mx) s.data.toList w) := by
 have OK := Lib.hid (cutN_ok (mn := mn) (b := b) (mx := mx) (by have := hF.h1; omega) (by have := hF.h2; have := hF.h3; omega))
 have C := Lib.hid (fun (x : ByteArray) (hx : x.size ≤ maxLen) W => refCut_any mn av b mx hF x hx W)
 clear hF
 have hown0 : OwnTxt (w.alloc (.cells #[.int .i64 mn, .int .i64 av, .int .i64 mx] 39)) (w.alloc (.cells #[.int .i64 mn, .int .i64 av, .int .i64 mx] 39)) (.slice none 0 0) [] := ownTxt_nil _
 obtain ⟨V, hV⟩ : ∃ V, V = w.alloc (.cells #[.int .i64 mn, .int .i64 av, .int .i64 mx] 39) := ⟨_, rfl⟩
 have hRV : Row V w.heap.size #[.int .i64 mn, .int .i64 av, .int .i64 mx] 39 := by rw [hV]; exact Row.made _ _ _
 have hBV : Below w.heap.size w V := by rw [hV]; exact (Below.refl _ _).alloc (Nat.le_refl _) _
 rw [← hV] at hown0
 have HV := Lib.hid hV; have HRV := Lib.hid hRV
 clear hV hRV
 go_enter Tryz.func87, Tryz.ntmps87
 go_wp2_with fail
 rw [← HV.out]
 go_loopw [1, 5] (fun q v wr => ∃ (M : List (List UInt8)) (x : ByteArray), q = .string x ∧ x.size ≤ s.size ∧ OnWay (cutN mn b mx) s.data.toList M x ∧ OwnTxt V wr v M ∧ Below V.heap.size V wr) (fun q _ _ => lenOf q)
 case atStart => exact ⟨[], s, rfl, Nat.le_refl _, rfl, hown0, Below.refl _ _⟩
 case round =>
  obtain ⟨M, x, rfl, hxs, hway, hown, hB⟩ := hrel
  have HW := Lib.hid hway; have HO := Lib.hid hown
  have hml := onWay_len OK.out hway
  rw [← Lib.size_eq] at hml
  have hol : M.length ≤ 1000000 := by omega
  clear hway hown hown0 hml
  have hR := HRV.out.step hB
  have g0 := hR.cell 0; have g1 := hR.cell 1; have g2 := hR.cell 2
  simp only [List.getElem?_toArray, List.getElem?_cons_zero, List.getElem?_cons_succ] at g0 g1 g2
  clear hR
  by_cases hx : 0 < x.size
  ·have hem : x.toList.isEmpty = false := by rw [str_nonempty]; exact hx
   have hstep := onWay_step OK.out HW.out hx
   have hn1 := OK.out.pos x.data.toList (fun e => by rw [Lib.size_eq, e] at hx; exact absurd hx (by simp))
   have hn2 := OK.out.le x.data.toList
   rw [← Lib.size_eq] at hn2
   have hC := C.out x (by unfold maxLen; omega)
   obtain ⟨n, hn⟩ : ∃ n, n = cutN mn b mx x.data.toList := ⟨_, rfl⟩
   rw [← hn] at hstep hn1 hn2 hC
   have hd1 := fun W => run_slice_to (P := Tryz.prog) Tryz.underlying9 x n hn2 W
   have hd2 := fun W => run_slice_from (P := Tryz.prog) Tryz.underlying9 x n hn2 W
   have hys : (x.extract n x.size).size = x.size - n := by rw [ByteArray.size_extract]; omega
   obtain ⟨t, ht⟩ : ∃ t, t = x.extract 0 n := ⟨_, rfl⟩
   obtain ⟨y, hy⟩ : ∃ y, y = x.extract n x.size := ⟨_, rfl⟩
   rw [← ht] at hd1 hstep
   rw [← hy] at hd2 hstep hys
   have HC := Lib.hid hC; have HS := Lib.hid hstep; have HYS := Lib.hid hys
   clear hC hstep hys ht hy hn
   go_wp2_with fail
   refine (HC.out _).mono ?_
   rintro e w1 ⟨rfl, hb1⟩
   have hB1 := below_step hB hb1
   have HO1 := Lib.hid (HO.out.stays hb1)
   clear HO hB hb1 g0 g1 g2
   go_wp2_with (at_builtin; refine wpList_append_txt rfl _ _ rfl HO1.out hB1 rfl rfl hol ?_)
   intro v' w2 hown' hb2
   have HO2 := Lib.hid hown'
   clear hown'
   go_wp2_with fail
   go_roundw
   case rel => exact ⟨_, y, rfl, by rw [HYS.out]; omega, HS.out, HO2.out, hb2⟩
   case measure => simp only [lenOf]; rw [HYS.out]; omega
  ·have hem : x.toList.isEmpty = true := by
    rcases h : x.toList.isEmpty with _ | _
    ·rw [str_nonempty] at h; exact absurd h hx
    ·rfl
   have hfin := onWay_end HW.out (by omega)
   have hstr := HO.out.low hBV.size
   rw [hfin] at hstr
   have hBw := hBV.trans (hB.mono hBV.size)
   have HST := Lib.hid hstr; have HBW := Lib.hid hBw
   clear hfin hstr HO hBw
   go_wp2
   go_ret
   exact ⟨_, rfl, HST.out, HBW.out⟩
theorem refPieces_any (mn av b mx : Nat) (hF : FitAt mn av mx b) (s : ByteArray) (hs : s.size ≤ 100000) (w : World) :
  Calls Tryz.prog 87 #[pV mn av mx, .string s] w (RetPcs (cutN mn b mx) s.data.toList w) :=
 (refPiecesO_any mn av b mx hF s hs w).mono fun _ _ ⟨v, h1, h2, h3⟩ => ⟨v, h1, h2.strs, h3⟩
end Go.Proofs.YtokknppjeckppaaGreatDoor
set_option linter.unusedVariables false
namespace Go.Proofs.YtokknppjeckppaaGreatDoor
open Go.RowKit
attribute [local go_sem] Oper.semAt_some
set_option maxRecDepth 100000 in
set_option maxHeartbeats 4000000 in
theorem refOrder_any (a b : ByteArray) (ha : a.size ≤ 100000) (hb : b.size ≤ 100000) (w : World) :
  Calls Tryz.prog 85 #[.string a, .string b] w fun e w' => e = .returned (.int .i64 (orderS a.data.toList b.data.toList)) ∧ Below w.heap.size w w' := by
 have C1 := Lib.hid (parts_any a ha)
 have C2 := Lib.hid (parts_any b hb)
 unfold orderS
 obtain ⟨X, hX⟩ : ∃ X, X = pts a.data.toList := ⟨_, rfl⟩
 obtain ⟨Y, hY⟩ : ∃ Y, Y = pts b.data.toList := ⟨_, rfl⟩
 rw [← hX] at C1 ⊢
 rw [← hY] at C2 ⊢
 clear hX hY ha hb
 go_enter Tryz.func85, Tryz.ntmps85
 go_wp2_with fail
 refine (C1.out _).mono ?_
 rintro e w1 ⟨v1, rfl, hv1, hb1⟩
 have HV1 := Lib.hid hv1; clear hv1
 go_wp2_with fail
 refine (C2.out _).mono ?_
 rintro e w2 ⟨v2, rfl, hv2, hb2⟩
 have hB := below_step hb1 hb2
 have hv1 := HV1.out.stays hb2
 clear HV1 hb1 hb2 C1 C2
 obtain ⟨hm, a1, c1, rfl, _, hc1⟩ := hv1
 obtain ⟨hm2, a2, c2, rfl, _, hc2⟩ := hv2
 have hmm : (strsOf X).length ≤ 9223372036854775807 := by unfold maxLen at hm; omega
 have hmm2 : (strsOf Y).length ≤ 9223372036854775807 := by unfold maxLen at hm2; omega
 have HK := Lib.hid (strsOf_len X); have HL := Lib.hid (strsOf_len Y)
 have HI1 := Lib.hid (strsOf_at X); have HI2 := Lib.hid (strsOf_at Y)
 clear hm hm2
 obtain ⟨K, hK⟩ : ∃ K, K = strsOf X := ⟨_, rfl⟩
 obtain ⟨L, hL⟩ : ∃ L, L = strsOf Y := ⟨_, rfl⟩
 rw [← hK] at HK HI1 hc1 hmm ⊢
 rw [← hL] at HL HI2 hc2 hmm2 ⊢
 have H1 := Lib.hid hc1; have H2 := Lib.hid hc2
 clear hc1 hc2 hK hL
 go_wp2
 go_loopw [7] (fun i wr => ∃ k m : Nat, k ≤ K.length ∧ k ≤ L.length ∧ i = .int .i64 k ∧ wr = w2.drewN m ∧ SameTo X Y k) (fun i _ => K.length - (intOf i).toNat)
 case atStart => exact ⟨0, 0, Nat.zero_le _, Nat.zero_le _, rfl, rfl, same_zero _ _⟩
 case round =>
  obtain ⟨k, m, hk, hk2, rfl, rfl, hn⟩ := hrel
  have HN := Lib.hid hn; clear hn
  by_cases hlt : k < K.length
  ·by_cases hlt2 : k < L.length
   ·obtain ⟨b1, o1, rfl, _, g1⟩ := H1.out (by omega)
    have q1 := g1 k hlt
    obtain ⟨b2, o2, rfl, _, g2⟩ := H2.out (by omega)
    have q2 := g2 k hlt2
    clear g1 g2
    have hbk : decide ((k : Int) < (K.length : Int)) = true := by simpa using (show (k : Int) < K.length by omega)
    have hbk2 : decide ((k : Int) < (L.length : Int)) = true := by simpa using (show (k : Int) < L.length by omega)
    have hx := HI1.out k hlt (by rw [← HK.out]; exact hlt)
    have hy := HI2.out k hlt2 (by rw [← HL.out]; exact hlt2)
    obtain ⟨x, hxx⟩ : ∃ x, x = K[k] := ⟨_, rfl⟩
    rw [← hxx] at q1 hx
    obtain ⟨y, hyy⟩ : ∃ y, y = L[k] := ⟨_, rfl⟩
    rw [← hyy] at q2 hy
    have HX := Lib.hid hx; have HY := Lib.hid hy; clear hx hxx hy hyy
    have hxl : k < X.length := by rw [← HK.out]; exact hlt
    have hyl : k < Y.length := by rw [← HL.out]; exact hlt2
    rcases ordX_cases x.data.toList y.data.toList with ⟨h, ho⟩ | ⟨h, ho⟩ | ⟨h, ho⟩
    ·have HS : Hid (cmpP X Y = -1) := by
      have := same_stop HN.out hxl hyl (by rw [← HX.out, ← HY.out, ho]; decide)
      rw [← HX.out, ← HY.out, ho] at this; exact this
     have l1 : Op.bytesLess x.toList y.toList = true := by rw [less_eq]; exact decide_eq_true h
     clear h ho hxl hyl
     go_wp2_with fail
     go_quiet (fail)
     go_wp2
     go_ret
     exact ⟨by rw [HS.out]; rfl, below_drewN (below_drewN hB _) _⟩
    ·have HS : Hid (cmpP X Y = 1) := by
      have := same_stop HN.out hxl hyl (by rw [← HX.out, ← HY.out, ho]; decide)
      rw [← HX.out, ← HY.out, ho] at this; exact this
     have l1 : Op.bytesLess x.toList y.toList = false := by rw [less_eq]; exact decide_eq_false (x_asymm h)
     have l2 : (x.toList == y.toList) = false := beq_false (fun e => x_irrefl _ (e ▸ h))
     clear h ho hxl hyl
     go_wp2_with fail
     go_quiet (fail)
     go_wp2_with fail
     go_quiet (fail)
     go_wp2
     go_ret
     exact ⟨by rw [HS.out]; rfl, below_drewN (below_drewN (below_drewN hB _) _) _⟩
    ·have HS := Lib.hid (same_step HN.out hxl hyl (by rw [← HX.out, ← HY.out, ho]))
     have l1 : Op.bytesLess x.toList y.toList = false := by rw [less_eq, h]; exact decide_eq_false (x_irrefl _)
     have l2 : (x.toList == y.toList) = true := beq_true (str_eq' h)
     clear h ho hxl hyl
     go_wp2_with fail
     go_quiet (fail)
     go_wp2_with fail
     have E1 := Lib.hid (World.drewN_drewN w2 m nq)
     go_quiet (fail)
     go_wp2
     go_roundw
     case rel => exact ⟨k + 1, _, by omega, by omega, by go_num, (by simp only [World.drewN]; rfl), HS.out⟩
     case measure => simp [intOf]; omega
   ·have hbk : decide ((k : Int) < (K.length : Int)) = true := by simpa using (show (k : Int) < K.length by omega)
    have hkl : k = L.length := by omega
    have HS : Hid (cmpP X Y = 1) := same_longer HN.out (by rw [← HK.out]; exact hlt) (by rw [← HL.out]; omega)
    have f1 : ¬ K.length < L.length := by omega
    have f2 : L.length < K.length := by omega
    have HKL := Lib.hid hkl; clear hkl
    go_wp2
    go_ret
    exact ⟨by rw [HS.out]; rfl, below_drewN hB _⟩
  ·have hkl : k = K.length := by omega
   have f0 : ¬ k < K.length := hlt
   by_cases hlt2 : K.length < L.length
   ·have HS : Hid (cmpP X Y = -1) := same_shorter HN.out (by rw [← HK.out]; omega) (by rw [← HL.out]; omega)
    clear hkl
    go_wp2
    go_ret
    exact ⟨by rw [HS.out]; rfl, below_drewN hB _⟩
   ·have HS : Hid (cmpP X Y = 0) := same_end HN.out (by rw [← HK.out]; omega) (by rw [← HL.out]; omega)
    have f2 : ¬ L.length < K.length := by omega
    clear hkl
    go_wp2
    go_ret
    exact ⟨by rw [HS.out]; rfl, below_drewN hB _⟩
end Go.Proofs.YtokknppjeckppaaGreatDoor
set_option linter.unusedVariables false
namespace Go.Proofs.YtokknppjeckppaaGreatDoor
theorem sizeT_few : ∀ {L : List It}, (∀ x ∈ L, x.c.size ≤ 40000) → sizeT L ≤ L.length * 40000
 | [], _ => Nat.le_refl _
 | x :: L, h => by
  rw [sizeT_cons, List.length_cons]
  have h1 := h x (by simp)
  have h2 := sizeT_few (L := L) (fun y hy => h y (by simp [hy]))
  omega
theorem c_empty (c : ByteArray) : c.toList.isEmpty = decide (c.size = 0) := by
 rw [Lib.toList_data, Lib.size_eq]; cases c.data.toList <;> simp
section
variable {L : List It} {x : It}
end
end Go.Proofs.YtokknppjeckppaaGreatDoor
set_option linter.unusedVariables false
namespace Go.Proofs.YtokknppjeckppaaGreatDoor
open Go.RowKit
attribute [local go_sem] Oper.semAt_some
structure OkAt (L : List It) (k : Nat) (h : k < L.length) : Prop where
 path : pathB L[k].t = true
 order : ∀ i (hi : i + 1 = k), orderS (L[i]'(by omega)).t L[k].t = -1
 form : badI L[k] = false
 data : L[k].c.size ≤ 32768
 under : underT L L[k].t = true
theorem rise_chain {L : List It} (h : ∀ i (hi : i + 1 < L.length), orderS (L[i]'(by omega)).t L[i + 1].t = -1) : Rise L := by
 refine List.pairwise_iff_getElem.2 (fun i j hi hj hij => ?_)
 obtain ⟨d, rfl⟩ : ∃ d, j = i + 1 + d := ⟨j - (i + 1), by omega⟩
 induction d with
 | zero => exact h i hj
 | succ d ih => exact order_trans (ih (by omega) (by omega)) (h (i + 1 + d) hj)
theorem tfit_of {L : List It} (h60 : L.length ≤ 60) (h : ∀ k (hk : k < L.length), OkAt L k hk) (hs : sizeT L ≤ 65536) : TFit L := by
 have hm : ∀ x ∈ L, ∃ k, ∃ hk : k < L.length, x = L[k] := fun x hx => by obtain ⟨i, hi, e⟩ := List.getElem_of_mem hx; exact ⟨i, hi, e.symm⟩
 refine ⟨h60, rise_chain fun i hi => (h (i + 1) hi).order i rfl, fun x hx => ?_, fun x hx => ?_, fun x hx => ?_, fun x hx => ?_, hs⟩
 ·obtain ⟨k, hk, rfl⟩ := hm x hx; exact (h k hk).path
 ·obtain ⟨k, hk, rfl⟩ := hm x hx; exact (h k hk).form
 ·obtain ⟨k, hk, rfl⟩ := hm x hx; exact (h k hk).data
 ·obtain ⟨k, hk, rfl⟩ := hm x hx; exact (h k hk).under
theorem tfit_at {L : List It} (h : TFit L) (k : Nat) (hk : k < L.length) : OkAt L k hk :=
 ⟨h.path _ (List.getElem_mem hk), fun i hi => List.pairwise_iff_getElem.1 h.rise i k (by omega) hk (by omega), h.form _ (List.getElem_mem hk), h.data _ (List.getElem_mem hk), h.under _ (List.getElem_mem hk)⟩
def OkTo (L : List It) (k : Nat) : Prop := ∀ j (hj : j < L.length), j < k → OkAt L j hj
theorem okTo_step {L : List It} {k : Nat} (hk : k < L.length) (h : OkTo L k) (hx : OkAt L k hk) : OkTo L (k + 1) := fun j hj hjk => by
 by_cases e : j = k
 ·subst e; exact hx
 ·exact h j hj (by omega)
set_option maxRecDepth 100000 in
set_option maxHeartbeats 40000000 in
theorem rFit_any_Tif (v : Value) (L : List It) (w : World) (h : IsItems w v L) (hf : fewB L = true) :
  Calls Tryz.prog 58 #[v] w fun e w' => e = .returned (.bool (fitT L)) ∧ Below w.heap.size w w' := by
 have HI := Lib.hid h
 have HFEW := Lib.hid (few_mem hf)
 have h70 := few_len hf
 have hsz : sizeT L ≤ 10000000 := by have := sizeT_few (fun x hx => (few_mem hf x hx).2); omega
 have FI := Lib.hid refFit_any
 have OR := Lib.hid refOrder_any
 have UN := Lib.hid rUnder_any
 obtain ⟨hm, a, cap, rfl, _, hc⟩ := h
 clear hc hf
 by_cases h60 : 60 < L.length
 ·have HF : Hid (fitT L = false) := fitT_no (fun h => by have := h.len; omega)
  have e1 : decide ((60 : Int) < (L.length : Int)) = true := decide_eq_true (by omega)
  go_enter Tryz.func58, Tryz.ntmps58
  go_wp2
  go_ret
  exact ⟨by rw [HF.out]; rfl, Below.refl _ _⟩
 ·have e1 : decide ((60 : Int) < (L.length : Int)) = false := decide_eq_false (by omega)
  go_enter Tryz.func58, Tryz.ntmps58
  go_wp2
  go_loopw [3, 4] (fun n i wr => ∃ k : Nat, k ≤ L.length ∧ i = .int .i64 k ∧ n = .int .i64 (sizeT (L.take k)) ∧ OkTo L k ∧ Below w.heap.size w wr) (fun _ i _ => L.length - (intOf i).toNat)
  case atStart => exact ⟨0, Nat.zero_le _, rfl, rfl, fun j _ h => absurd h (Nat.not_lt_zero _), Below.refl _ _⟩
  case round =>
   obtain ⟨k, hk, rfl, rfl, hok, hB⟩ := hrel
   have HOK := Lib.hid hok
   clear hok
   by_cases hlt : k < L.length
   ·have HIr := Lib.hid (HI.out.stays hB)
    obtain ⟨_, _, _, e, _, hc⟩ := HIr.out
    cases e
    obtain ⟨b, off, rfl, hbl, g⟩ := hc (by omega)
    have G := Lib.hid g
    obtain ⟨c0, c1, c2, c3⟩ := g k hlt
    have hbk : decide ((k : Int) < (L.length : Int)) = true := by simpa using (show (k : Int) < L.length by omega)
    have hbd : sizeT (L.take k) + L[k].c.size ≤ 10000000 := by have := sizeT_take L (k + 1); rw [fewer_len L k hlt] at this; omega
    have HSZ := Lib.hid (fewer_len L k hlt)
    have HSTEP := Lib.hid (fun hx => okTo_step hlt HOK.out hx)
    have HBAD := Lib.hid (fun (hn : ¬ OkAt L k hlt) => fitT_no (fun h => hn (tfit_at h k hlt)))
    have HMK := Lib.hid (fun h1 h2 h3 h4 h5 => OkAt.mk (L := L) (k := k) (h := hlt) h1 h2 h3 h4 h5)
    have HSP := Lib.hid (fun h : OkAt L k hlt => And.intro h.path (And.intro h.order (And.intro h.form (And.intro h.data h.under))))
    clear g hc
    obtain ⟨x, hx⟩ : ∃ x, x = L[k] := ⟨_, rfl⟩
    have hxs := (HFEW.out _ (List.getElem_mem hlt)).1
    rw [← hx] at c0 c1 c2 c3 hbd HSZ hxs HMK HSP
    clear hx
    go_wp2_with fail
    have HX := Lib.hid (inBox_new wr x 65)
    have HB0 := Lib.hid (below_step hB ((Below.refl wr.heap.size wr).alloc (Nat.le_refl _) (.cells #[.string x.p, .bool x.d, .bool x.e, .string x.c] 65)))
    have HI2 := Lib.hid (HIr.out.stays ((Below.refl wr.heap.size wr).alloc (Nat.le_refl _) (.cells #[.string x.p, .bool x.d, .bool x.e, .string x.c] 65)))
    have HG2 := Lib.hid (fun i (hi : i < L.length) => (G.out i hi).stays hbl ((Below.refl wr.heap.size wr).alloc (Nat.le_refl _) (.cells #[.string x.p, .bool x.d, .bool x.e, .string x.c] 65)))
    generalize wr.alloc (.cells #[.string x.p, .bool x.d, .bool x.e, .string x.c] 65) = W2 at HX HB0 HI2 HG2 ⊢
    generalize wr.heap.size = B2 at HX ⊢
    clear c0 c1 c2 c3 hbl G HIr hB
    obtain ⟨d0, d1, d2, d3⟩ := HX.out.cells
    have k0 := fun d os => cell_regrown d0 d os
    have k1 := fun d os => cell_regrown d1 d os
    have k2 := fun d os => cell_regrown d2 d os
    have k3 := fun d os => cell_regrown d3 d os
    have P1 := Lib.hid (FI.out x.p (by omega))
    have U1 := Lib.hid (fun W hW => UN.out (.slice (some ⟨b, off, none⟩) L.length cap) L x.p W hW (by omega))
    rcases Nat.eq_zero_or_pos k with hk0 | hk0
    ·have f1 : decide ((0 : Int) < (k : Int)) = false := decide_eq_false (by omega)
     have f2 : ¬ 0 < k := by omega
     have HK0 := Lib.hid hk0
     clear hk0
     rcases hpb : pathB x.t with _ | _
     ·rw [show isPath x.p.data.toList = false from hpb] at P1
      have HPB := Lib.hid hpb
      clear hpb
      have HF := Lib.hid (HBAD.out (fun h => by have h' := HSP.out h; rw [HPB.out] at h'; exact absurd h'.1 (by decide)))
      clear HBAD HSP HMK HSTEP
      refine wp_region_quiet_below (by kernel_rfl) (by kernel_rfl) ?_
      repeat (first | go_big_quiet_step ((first | (go_at_call 84; exact Calls.regrown_of (P1.out _)) | (go_at_call 86; exact Calls.regrown_of (U1.out _ (HI2.out.stays (below_regrown _ _ _)))))) | quiet_step ((first | (go_at_call 84; exact Calls.regrown_of (P1.out _)) | (go_at_call 86; exact Calls.regrown_of (U1.out _ (HI2.out.stays (below_regrown _ _ _)))))))
      refine wpQuiet_nil ?_
      intro wq hwq
      have hbq : Below W2.heap.size W2 wq := by obtain ⟨p, rfl⟩ := hwq; exact below_regrown _ _ _
      clear hwq k0 k1 k2 k3 d0 d1 d2 d3
      go_wp2
      go_ret
      exact ⟨by rw [HF.out]; rfl, below_step HB0.out hbq⟩
     ·rw [show isPath x.p.data.toList = true from hpb] at P1
      have HPB := Lib.hid hpb
      clear hpb
      rcases hdd : x.d with _ | _
      ·have HFM : Hid (badI x = false) := show _ = _ by unfold badI; rw [hdd]; rfl
       by_cases hss : x.c.size ≤ 32768
       ·have HSS := Lib.hid hss
        have gss : decide ((32768 : Int) < (x.c.size : Int)) = false := decide_eq_false (by omega)
        clear hss
        rcases huu : underT L x.t with _ | _
        ·rw [show underT L x.p.data.toList = false from huu] at U1
         have HUU := Lib.hid huu
         clear huu
         have HF := Lib.hid (HBAD.out (fun h => by have h' := HSP.out h; rw [HUU.out] at h'; exact absurd h'.2.2.2.2 (by decide)))
         clear HBAD HSP HMK HSTEP
         refine wp_region_quiet_below (by kernel_rfl) (by kernel_rfl) ?_
         repeat (first | go_big_quiet_step ((first | (go_at_call 84; exact Calls.regrown_of (P1.out _)) | (go_at_call 86; exact Calls.regrown_of (U1.out _ (HI2.out.stays (below_regrown _ _ _)))))) | quiet_step ((first | (go_at_call 84; exact Calls.regrown_of (P1.out _)) | (go_at_call 86; exact Calls.regrown_of (U1.out _ (HI2.out.stays (below_regrown _ _ _)))))))
         refine wpQuiet_nil ?_
         intro wq hwq
         have hbq : Below W2.heap.size W2 wq := by obtain ⟨p, rfl⟩ := hwq; exact below_regrown _ _ _
         clear hwq k0 k1 k2 k3 d0 d1 d2 d3
         go_wp2
         go_ret
         exact ⟨by rw [HF.out]; rfl, below_step HB0.out hbq⟩
        ·rw [show underT L x.p.data.toList = true from huu] at U1
         have HUU := Lib.hid huu
         clear huu
         have HN := Lib.hid (HSTEP.out (HMK.out HPB.out (fun i hi => absurd (HK0.out) (by omega)) HFM.out HSS.out HUU.out))
         clear HBAD HSP HMK HSTEP
         refine wp_region_quiet_below (by kernel_rfl) (by kernel_rfl) ?_
         repeat (first | go_big_quiet_step ((first | (go_at_call 84; exact Calls.regrown_of (P1.out _)) | (go_at_call 86; exact Calls.regrown_of (U1.out _ (HI2.out.stays (below_regrown _ _ _)))))) | quiet_step ((first | (go_at_call 84; exact Calls.regrown_of (P1.out _)) | (go_at_call 86; exact Calls.regrown_of (U1.out _ (HI2.out.stays (below_regrown _ _ _)))))))
         refine wpQuiet_nil ?_
         intro wq hwq
         have hbq : Below W2.heap.size W2 wq := by obtain ⟨p, rfl⟩ := hwq; exact below_regrown _ _ _
         clear hwq k0 k1 k2 k3 d0 d1 d2 d3
         obtain ⟨e0, e1, e2, e3⟩ := (HX.out.stays hbq).cells
         go_wp2_with fail
         go_roundw
         case rel => exact ⟨k + 1, by omega, by go_num, by rw [HSZ.out]; go_num, HN.out, below_step HB0.out hbq⟩
         case measure => simp [intOf]; omega
       ·have gss : decide ((32768 : Int) < (x.c.size : Int)) = true := decide_eq_true (by omega)
        have HSS := Lib.hid hss
        clear hss
        have HF := Lib.hid (HBAD.out (fun h => by have h' := HSP.out h; exact HSS.out h'.2.2.2.1))
        clear HBAD HSP HMK HSTEP
        refine wp_region_quiet_below (by kernel_rfl) (by kernel_rfl) ?_
        repeat (first | go_big_quiet_step ((first | (go_at_call 84; exact Calls.regrown_of (P1.out _)) | (go_at_call 86; exact Calls.regrown_of (U1.out _ (HI2.out.stays (below_regrown _ _ _)))))) | quiet_step ((first | (go_at_call 84; exact Calls.regrown_of (P1.out _)) | (go_at_call 86; exact Calls.regrown_of (U1.out _ (HI2.out.stays (below_regrown _ _ _)))))))
        refine wpQuiet_nil ?_
        intro wq hwq
        have hbq : Below W2.heap.size W2 wq := by obtain ⟨p, rfl⟩ := hwq; exact below_regrown _ _ _
        clear hwq k0 k1 k2 k3 d0 d1 d2 d3
        go_wp2
        go_ret
        exact ⟨by rw [HF.out]; rfl, below_step HB0.out hbq⟩
      ·rcases hcc : x.c.toList.isEmpty with _ | _
       ·have HFM : Hid (badI x = true) := show _ = _ by unfold badI; rw [hdd, c_empty] at *; rw [decide_eq_true (of_decide_eq_false hcc)]; rfl
        have HF := Lib.hid (HBAD.out (fun h => by have h' := HSP.out h; rw [HFM.out] at h'; exact absurd h'.2.2.1 (by decide)))
        clear HBAD HSP HMK HSTEP
        refine wp_region_quiet_below (by kernel_rfl) (by kernel_rfl) ?_
        repeat (first | go_big_quiet_step ((first | (go_at_call 84; exact Calls.regrown_of (P1.out _)) | (go_at_call 86; exact Calls.regrown_of (U1.out _ (HI2.out.stays (below_regrown _ _ _)))))) | quiet_step ((first | (go_at_call 84; exact Calls.regrown_of (P1.out _)) | (go_at_call 86; exact Calls.regrown_of (U1.out _ (HI2.out.stays (below_regrown _ _ _)))))))
        refine wpQuiet_nil ?_
        intro wq hwq
        have hbq : Below W2.heap.size W2 wq := by obtain ⟨p, rfl⟩ := hwq; exact below_regrown _ _ _
        clear hwq k0 k1 k2 k3 d0 d1 d2 d3
        go_wp2
        go_ret
        exact ⟨by rw [HF.out]; rfl, below_step HB0.out hbq⟩
       ·rcases hee : x.e with _ | _
        ·have HFM : Hid (badI x = false) := show _ = _ by unfold badI; rw [c_empty] at hcc; rw [hdd, hee, decide_eq_false (fun h => h (of_decide_eq_true hcc))]; rfl
         by_cases hss : x.c.size ≤ 32768
         ·have HSS := Lib.hid hss
          have gss : decide ((32768 : Int) < (x.c.size : Int)) = false := decide_eq_false (by omega)
          clear hss
          rcases huu : underT L x.t with _ | _
          ·rw [show underT L x.p.data.toList = false from huu] at U1
           have HUU := Lib.hid huu
           clear huu
           have HF := Lib.hid (HBAD.out (fun h => by have h' := HSP.out h; rw [HUU.out] at h'; exact absurd h'.2.2.2.2 (by decide)))
           clear HBAD HSP HMK HSTEP
           refine wp_region_quiet_below (by kernel_rfl) (by kernel_rfl) ?_
           repeat (first | go_big_quiet_step ((first | (go_at_call 84; exact Calls.regrown_of (P1.out _)) | (go_at_call 86; exact Calls.regrown_of (U1.out _ (HI2.out.stays (below_regrown _ _ _)))))) | quiet_step ((first | (go_at_call 84; exact Calls.regrown_of (P1.out _)) | (go_at_call 86; exact Calls.regrown_of (U1.out _ (HI2.out.stays (below_regrown _ _ _)))))))
           refine wpQuiet_nil ?_
           intro wq hwq
           have hbq : Below W2.heap.size W2 wq := by obtain ⟨p, rfl⟩ := hwq; exact below_regrown _ _ _
           clear hwq k0 k1 k2 k3 d0 d1 d2 d3
           go_wp2
           go_ret
           exact ⟨by rw [HF.out]; rfl, below_step HB0.out hbq⟩
          ·rw [show underT L x.p.data.toList = true from huu] at U1
           have HUU := Lib.hid huu
           clear huu
           have HN := Lib.hid (HSTEP.out (HMK.out HPB.out (fun i hi => absurd (HK0.out) (by omega)) HFM.out HSS.out HUU.out))
           clear HBAD HSP HMK HSTEP
           refine wp_region_quiet_below (by kernel_rfl) (by kernel_rfl) ?_
           repeat (first | go_big_quiet_step ((first | (go_at_call 84; exact Calls.regrown_of (P1.out _)) | (go_at_call 86; exact Calls.regrown_of (U1.out _ (HI2.out.stays (below_regrown _ _ _)))))) | quiet_step ((first | (go_at_call 84; exact Calls.regrown_of (P1.out _)) | (go_at_call 86; exact Calls.regrown_of (U1.out _ (HI2.out.stays (below_regrown _ _ _)))))))
           refine wpQuiet_nil ?_
           intro wq hwq
           have hbq : Below W2.heap.size W2 wq := by obtain ⟨p, rfl⟩ := hwq; exact below_regrown _ _ _
           clear hwq k0 k1 k2 k3 d0 d1 d2 d3
           obtain ⟨e0, e1, e2, e3⟩ := (HX.out.stays hbq).cells
           go_wp2_with fail
           go_roundw
           case rel => exact ⟨k + 1, by omega, by go_num, by rw [HSZ.out]; go_num, HN.out, below_step HB0.out hbq⟩
           case measure => simp [intOf]; omega
         ·have gss : decide ((32768 : Int) < (x.c.size : Int)) = true := decide_eq_true (by omega)
          have HSS := Lib.hid hss
          clear hss
          have HF := Lib.hid (HBAD.out (fun h => by have h' := HSP.out h; exact HSS.out h'.2.2.2.1))
          clear HBAD HSP HMK HSTEP
          refine wp_region_quiet_below (by kernel_rfl) (by kernel_rfl) ?_
          repeat (first | go_big_quiet_step ((first | (go_at_call 84; exact Calls.regrown_of (P1.out _)) | (go_at_call 86; exact Calls.regrown_of (U1.out _ (HI2.out.stays (below_regrown _ _ _)))))) | quiet_step ((first | (go_at_call 84; exact Calls.regrown_of (P1.out _)) | (go_at_call 86; exact Calls.regrown_of (U1.out _ (HI2.out.stays (below_regrown _ _ _)))))))
          refine wpQuiet_nil ?_
          intro wq hwq
          have hbq : Below W2.heap.size W2 wq := by obtain ⟨p, rfl⟩ := hwq; exact below_regrown _ _ _
          clear hwq k0 k1 k2 k3 d0 d1 d2 d3
          go_wp2
          go_ret
          exact ⟨by rw [HF.out]; rfl, below_step HB0.out hbq⟩
        ·have HFM : Hid (badI x = true) := show _ = _ by unfold badI; rw [hdd, hee]; simp
         have HF := Lib.hid (HBAD.out (fun h => by have h' := HSP.out h; rw [HFM.out] at h'; exact absurd h'.2.2.1 (by decide)))
         clear HBAD HSP HMK HSTEP
         refine wp_region_quiet_below (by kernel_rfl) (by kernel_rfl) ?_
         repeat (first | go_big_quiet_step ((first | (go_at_call 84; exact Calls.regrown_of (P1.out _)) | (go_at_call 86; exact Calls.regrown_of (U1.out _ (HI2.out.stays (below_regrown _ _ _)))))) | quiet_step ((first | (go_at_call 84; exact Calls.regrown_of (P1.out _)) | (go_at_call 86; exact Calls.regrown_of (U1.out _ (HI2.out.stays (below_regrown _ _ _)))))))
         refine wpQuiet_nil ?_
         intro wq hwq
         have hbq : Below W2.heap.size W2 wq := by obtain ⟨p, rfl⟩ := hwq; exact below_regrown _ _ _
         clear hwq k0 k1 k2 k3 d0 d1 d2 d3
         go_wp2
         go_ret
         exact ⟨by rw [HF.out]; rfl, below_step HB0.out hbq⟩
    ·have f1 : decide ((0 : Int) < (k : Int)) = true := decide_eq_true (by omega)
     have gy := HG2.out (k - 1) (by omega)
     obtain ⟨y, hy⟩ : ∃ y, y = L[k - 1]'(by omega) := ⟨_, rfl⟩
     have hys := (HFEW.out _ (List.getElem_mem (show k - 1 < L.length by omega))).1
     rw [← hy] at gy hys
     have HORD : Hid (∀ i (hi : i + 1 = k), (L[i]'(by omega)) = y) := show ∀ _ _, _ from fun i hi => by rw [hy]; congr 1; omega
     clear hy
     have p0 := fun d os => cell_regrown gy.1 d os
     have gy0 := gy.1
     clear gy
     have s1 : IntKind.i64.wrap ((k : Int) - 1) = (k : Int) - 1 := IntWalk.i64_in _ (by omega)
     have s2 : (0 : Int) ≤ (k : Int) - 1 := by omega
     have s3 : ((k : Int) - 1).toNat = k - 1 := by omega
     have O1 := Lib.hid (OR.out y.p x.p (by omega) (by omega))
     rcases hpb : pathB x.t with _ | _
     ·rw [show isPath x.p.data.toList = false from hpb] at P1
      have HPB := Lib.hid hpb
      clear hpb
      have HF := Lib.hid (HBAD.out (fun h => by have h' := HSP.out h; rw [HPB.out] at h'; exact absurd h'.1 (by decide)))
      clear HBAD HSP HMK HSTEP
      refine wp_region_quiet_below (by kernel_rfl) (by kernel_rfl) ?_
      repeat (first | go_big_quiet_step ((first | (go_at_call 84; exact Calls.regrown_of (P1.out _)) | (go_at_call 86; exact Calls.regrown_of (U1.out _ (HI2.out.stays (below_regrown _ _ _)))) | (go_at_call 85; exact Calls.regrown_of (O1.out _)))) | quiet_step ((first | (go_at_call 84; exact Calls.regrown_of (P1.out _)) | (go_at_call 86; exact Calls.regrown_of (U1.out _ (HI2.out.stays (below_regrown _ _ _)))) | (go_at_call 85; exact Calls.regrown_of (O1.out _)))))
      refine wpQuiet_nil ?_
      intro wq hwq
      have hbq : Below W2.heap.size W2 wq := by obtain ⟨p, rfl⟩ := hwq; exact below_regrown _ _ _
      clear hwq k0 k1 k2 k3 d0 d1 d2 d3
      go_wp2
      go_ret
      exact ⟨by rw [HF.out]; rfl, below_step HB0.out hbq⟩
     ·rw [show isPath x.p.data.toList = true from hpb] at P1
      have HPB := Lib.hid hpb
      clear hpb
      by_cases ho : orderS y.t x.t = -1
      ·rw [show orderS y.p.data.toList x.p.data.toList = -1 from ho] at O1
       have HOO : Hid (∀ i (hi : i + 1 = k), orderS (L[i]'(by omega)).t x.t = -1) := show ∀ _ _, _ from fun i hi => by rw [HORD.out i hi]; exact ho
       clear ho HORD
       rcases hdd : x.d with _ | _
       ·have HFM : Hid (badI x = false) := show _ = _ by unfold badI; rw [hdd]; rfl
        by_cases hss : x.c.size ≤ 32768
        ·have HSS := Lib.hid hss
         have gss : decide ((32768 : Int) < (x.c.size : Int)) = false := decide_eq_false (by omega)
         clear hss
         rcases huu : underT L x.t with _ | _
         ·rw [show underT L x.p.data.toList = false from huu] at U1
          have HUU := Lib.hid huu
          clear huu
          have HF := Lib.hid (HBAD.out (fun h => by have h' := HSP.out h; rw [HUU.out] at h'; exact absurd h'.2.2.2.2 (by decide)))
          clear HBAD HSP HMK HSTEP
          refine wp_region_quiet_below (by kernel_rfl) (by kernel_rfl) ?_
          repeat (first | go_big_quiet_step ((first | (go_at_call 84; exact Calls.regrown_of (P1.out _)) | (go_at_call 86; exact Calls.regrown_of (U1.out _ (HI2.out.stays (below_regrown _ _ _)))) | (go_at_call 85; exact Calls.regrown_of (O1.out _)))) | quiet_step ((first | (go_at_call 84; exact Calls.regrown_of (P1.out _)) | (go_at_call 86; exact Calls.regrown_of (U1.out _ (HI2.out.stays (below_regrown _ _ _)))) | (go_at_call 85; exact Calls.regrown_of (O1.out _)))))
          refine wpQuiet_nil ?_
          intro wq hwq
          have hbq : Below W2.heap.size W2 wq := by obtain ⟨p, rfl⟩ := hwq; exact below_regrown _ _ _
          clear hwq k0 k1 k2 k3 d0 d1 d2 d3
          go_wp2
          go_ret
          exact ⟨by rw [HF.out]; rfl, below_step HB0.out hbq⟩
         ·rw [show underT L x.p.data.toList = true from huu] at U1
          have HUU := Lib.hid huu
          clear huu
          have HN := Lib.hid (HSTEP.out (HMK.out HPB.out HOO.out HFM.out HSS.out HUU.out))
          clear HBAD HSP HMK HSTEP
          refine wp_region_quiet_below (by kernel_rfl) (by kernel_rfl) ?_
          repeat (first | go_big_quiet_step ((first | (go_at_call 84; exact Calls.regrown_of (P1.out _)) | (go_at_call 86; exact Calls.regrown_of (U1.out _ (HI2.out.stays (below_regrown _ _ _)))) | (go_at_call 85; exact Calls.regrown_of (O1.out _)))) | quiet_step ((first | (go_at_call 84; exact Calls.regrown_of (P1.out _)) | (go_at_call 86; exact Calls.regrown_of (U1.out _ (HI2.out.stays (below_regrown _ _ _)))) | (go_at_call 85; exact Calls.regrown_of (O1.out _)))))
          refine wpQuiet_nil ?_
          intro wq hwq
          have hbq : Below W2.heap.size W2 wq := by obtain ⟨p, rfl⟩ := hwq; exact below_regrown _ _ _
          clear hwq k0 k1 k2 k3 d0 d1 d2 d3
          obtain ⟨e0, e1, e2, e3⟩ := (HX.out.stays hbq).cells
          go_wp2_with fail
          go_roundw
          case rel => exact ⟨k + 1, by omega, by go_num, by rw [HSZ.out]; go_num, HN.out, below_step HB0.out hbq⟩
          case measure => simp [intOf]; omega
        ·have gss : decide ((32768 : Int) < (x.c.size : Int)) = true := decide_eq_true (by omega)
         have HSS := Lib.hid hss
         clear hss
         have HF := Lib.hid (HBAD.out (fun h => by have h' := HSP.out h; exact HSS.out h'.2.2.2.1))
         clear HBAD HSP HMK HSTEP
         refine wp_region_quiet_below (by kernel_rfl) (by kernel_rfl) ?_
         repeat (first | go_big_quiet_step ((first | (go_at_call 84; exact Calls.regrown_of (P1.out _)) | (go_at_call 86; exact Calls.regrown_of (U1.out _ (HI2.out.stays (below_regrown _ _ _)))) | (go_at_call 85; exact Calls.regrown_of (O1.out _)))) | quiet_step ((first | (go_at_call 84; exact Calls.regrown_of (P1.out _)) | (go_at_call 86; exact Calls.regrown_of (U1.out _ (HI2.out.stays (below_regrown _ _ _)))) | (go_at_call 85; exact Calls.regrown_of (O1.out _)))))
         refine wpQuiet_nil ?_
         intro wq hwq
         have hbq : Below W2.heap.size W2 wq := by obtain ⟨p, rfl⟩ := hwq; exact below_regrown _ _ _
         clear hwq k0 k1 k2 k3 d0 d1 d2 d3
         go_wp2
         go_ret
         exact ⟨by rw [HF.out]; rfl, below_step HB0.out hbq⟩
       ·rcases hcc : x.c.toList.isEmpty with _ | _
        ·have HFM : Hid (badI x = true) := show _ = _ by unfold badI; rw [hdd, c_empty] at *; rw [decide_eq_true (of_decide_eq_false hcc)]; rfl
         have HF := Lib.hid (HBAD.out (fun h => by have h' := HSP.out h; rw [HFM.out] at h'; exact absurd h'.2.2.1 (by decide)))
         clear HBAD HSP HMK HSTEP
         refine wp_region_quiet_below (by kernel_rfl) (by kernel_rfl) ?_
         repeat (first | go_big_quiet_step ((first | (go_at_call 84; exact Calls.regrown_of (P1.out _)) | (go_at_call 86; exact Calls.regrown_of (U1.out _ (HI2.out.stays (below_regrown _ _ _)))) | (go_at_call 85; exact Calls.regrown_of (O1.out _)))) | quiet_step ((first | (go_at_call 84; exact Calls.regrown_of (P1.out _)) | (go_at_call 86; exact Calls.regrown_of (U1.out _ (HI2.out.stays (below_regrown _ _ _)))) | (go_at_call 85; exact Calls.regrown_of (O1.out _)))))
         refine wpQuiet_nil ?_
         intro wq hwq
         have hbq : Below W2.heap.size W2 wq := by obtain ⟨p, rfl⟩ := hwq; exact below_regrown _ _ _
         clear hwq k0 k1 k2 k3 d0 d1 d2 d3
         go_wp2
         go_ret
         exact ⟨by rw [HF.out]; rfl, below_step HB0.out hbq⟩
        ·rcases hee : x.e with _ | _
         ·have HFM : Hid (badI x = false) := show _ = _ by unfold badI; rw [c_empty] at hcc; rw [hdd, hee, decide_eq_false (fun h => h (of_decide_eq_true hcc))]; rfl
          by_cases hss : x.c.size ≤ 32768
          ·have HSS := Lib.hid hss
           have gss : decide ((32768 : Int) < (x.c.size : Int)) = false := decide_eq_false (by omega)
           clear hss
           rcases huu : underT L x.t with _ | _
           ·rw [show underT L x.p.data.toList = false from huu] at U1
            have HUU := Lib.hid huu
            clear huu
            have HF := Lib.hid (HBAD.out (fun h => by have h' := HSP.out h; rw [HUU.out] at h'; exact absurd h'.2.2.2.2 (by decide)))
            clear HBAD HSP HMK HSTEP
            refine wp_region_quiet_below (by kernel_rfl) (by kernel_rfl) ?_
            repeat (first | go_big_quiet_step ((first | (go_at_call 84; exact Calls.regrown_of (P1.out _)) | (go_at_call 86; exact Calls.regrown_of (U1.out _ (HI2.out.stays (below_regrown _ _ _)))) | (go_at_call 85; exact Calls.regrown_of (O1.out _)))) | quiet_step ((first | (go_at_call 84; exact Calls.regrown_of (P1.out _)) | (go_at_call 86; exact Calls.regrown_of (U1.out _ (HI2.out.stays (below_regrown _ _ _)))) | (go_at_call 85; exact Calls.regrown_of (O1.out _)))))
            refine wpQuiet_nil ?_
            intro wq hwq
            have hbq : Below W2.heap.size W2 wq := by obtain ⟨p, rfl⟩ := hwq; exact below_regrown _ _ _
            clear hwq k0 k1 k2 k3 d0 d1 d2 d3
            go_wp2
            go_ret
            exact ⟨by rw [HF.out]; rfl, below_step HB0.out hbq⟩
           ·rw [show underT L x.p.data.toList = true from huu] at U1
            have HUU := Lib.hid huu
            clear huu
            have HN := Lib.hid (HSTEP.out (HMK.out HPB.out HOO.out HFM.out HSS.out HUU.out))
            clear HBAD HSP HMK HSTEP
            refine wp_region_quiet_below (by kernel_rfl) (by kernel_rfl) ?_
            repeat (first | go_big_quiet_step ((first | (go_at_call 84; exact Calls.regrown_of (P1.out _)) | (go_at_call 86; exact Calls.regrown_of (U1.out _ (HI2.out.stays (below_regrown _ _ _)))) | (go_at_call 85; exact Calls.regrown_of (O1.out _)))) | quiet_step ((first | (go_at_call 84; exact Calls.regrown_of (P1.out _)) | (go_at_call 86; exact Calls.regrown_of (U1.out _ (HI2.out.stays (below_regrown _ _ _)))) | (go_at_call 85; exact Calls.regrown_of (O1.out _)))))
            refine wpQuiet_nil ?_
            intro wq hwq
            have hbq : Below W2.heap.size W2 wq := by obtain ⟨p, rfl⟩ := hwq; exact below_regrown _ _ _
            clear hwq k0 k1 k2 k3 d0 d1 d2 d3
            obtain ⟨e0, e1, e2, e3⟩ := (HX.out.stays hbq).cells
            go_wp2_with fail
            go_roundw
            case rel => exact ⟨k + 1, by omega, by go_num, by rw [HSZ.out]; go_num, HN.out, below_step HB0.out hbq⟩
            case measure => simp [intOf]; omega
          ·have gss : decide ((32768 : Int) < (x.c.size : Int)) = true := decide_eq_true (by omega)
           have HSS := Lib.hid hss
           clear hss
           have HF := Lib.hid (HBAD.out (fun h => by have h' := HSP.out h; exact HSS.out h'.2.2.2.1))
           clear HBAD HSP HMK HSTEP
           refine wp_region_quiet_below (by kernel_rfl) (by kernel_rfl) ?_
           repeat (first | go_big_quiet_step ((first | (go_at_call 84; exact Calls.regrown_of (P1.out _)) | (go_at_call 86; exact Calls.regrown_of (U1.out _ (HI2.out.stays (below_regrown _ _ _)))) | (go_at_call 85; exact Calls.regrown_of (O1.out _)))) | quiet_step ((first | (go_at_call 84; exact Calls.regrown_of (P1.out _)) | (go_at_call 86; exact Calls.regrown_of (U1.out _ (HI2.out.stays (below_regrown _ _ _)))) | (go_at_call 85; exact Calls.regrown_of (O1.out _)))))
           refine wpQuiet_nil ?_
           intro wq hwq
           have hbq : Below W2.heap.size W2 wq := by obtain ⟨p, rfl⟩ := hwq; exact below_regrown _ _ _
           clear hwq k0 k1 k2 k3 d0 d1 d2 d3
           go_wp2
           go_ret
           exact ⟨by rw [HF.out]; rfl, below_step HB0.out hbq⟩
         ·have HFM : Hid (badI x = true) := show _ = _ by unfold badI; rw [hdd, hee]; simp
          have HF := Lib.hid (HBAD.out (fun h => by have h' := HSP.out h; rw [HFM.out] at h'; exact absurd h'.2.2.1 (by decide)))
          clear HBAD HSP HMK HSTEP
          refine wp_region_quiet_below (by kernel_rfl) (by kernel_rfl) ?_
          repeat (first | go_big_quiet_step ((first | (go_at_call 84; exact Calls.regrown_of (P1.out _)) | (go_at_call 86; exact Calls.regrown_of (U1.out _ (HI2.out.stays (below_regrown _ _ _)))) | (go_at_call 85; exact Calls.regrown_of (O1.out _)))) | quiet_step ((first | (go_at_call 84; exact Calls.regrown_of (P1.out _)) | (go_at_call 86; exact Calls.regrown_of (U1.out _ (HI2.out.stays (below_regrown _ _ _)))) | (go_at_call 85; exact Calls.regrown_of (O1.out _)))))
          refine wpQuiet_nil ?_
          intro wq hwq
          have hbq : Below W2.heap.size W2 wq := by obtain ⟨p, rfl⟩ := hwq; exact below_regrown _ _ _
          clear hwq k0 k1 k2 k3 d0 d1 d2 d3
          go_wp2
          go_ret
          exact ⟨by rw [HF.out]; rfl, below_step HB0.out hbq⟩
      ·have HOO : Hid (¬ ∀ i (hi : i + 1 = k), orderS (L[i]'(by omega)).t x.t = -1) := show ¬ _ from fun h => ho (by have := h (k - 1) (by omega); rw [HORD.out (k - 1) (by omega)] at this; exact this)
       have go : decide ((0 : Int) ≤ orderS y.t x.t) = true := decide_eq_true (by rcases order_three y.t x.t with e | e | e <;> omega)
       obtain ⟨q, hq⟩ : ∃ q, q = orderS y.t x.t := ⟨_, rfl⟩
       rw [show orderS y.p.data.toList x.p.data.toList = orderS y.t x.t from rfl, ← hq] at O1
       rw [← hq] at go
       clear ho hq HORD
       have HF := Lib.hid (HBAD.out (fun h => by have h' := HSP.out h; exact HOO.out h'.2.1))
       clear HBAD HSP HMK HSTEP
       refine wp_region_quiet_below (by kernel_rfl) (by kernel_rfl) ?_
       repeat (first | go_big_quiet_step ((first | (go_at_call 84; exact Calls.regrown_of (P1.out _)) | (go_at_call 86; exact Calls.regrown_of (U1.out _ (HI2.out.stays (below_regrown _ _ _)))) | (go_at_call 85; exact Calls.regrown_of (O1.out _)))) | quiet_step ((first | (go_at_call 84; exact Calls.regrown_of (P1.out _)) | (go_at_call 86; exact Calls.regrown_of (U1.out _ (HI2.out.stays (below_regrown _ _ _)))) | (go_at_call 85; exact Calls.regrown_of (O1.out _)))))
       refine wpQuiet_nil ?_
       intro wq hwq
       have hbq : Below W2.heap.size W2 wq := by obtain ⟨p, rfl⟩ := hwq; exact below_regrown _ _ _
       clear hwq k0 k1 k2 k3 d0 d1 d2 d3
       go_wp2
       go_ret
       exact ⟨by rw [HF.out]; rfl, below_step HB0.out hbq⟩
   ·have hkl : k = L.length := by omega
    have HALL : Hid (sizeT L ≤ 65536 → fitT L = true) := show _ → _ from fun h => fitT_yes (tfit_of (by omega) (fun j hj => HOK.out j hj (by omega)) h)
    have HNO : Hid (¬ sizeT L ≤ 65536 → fitT L = false) := show _ → _ from fun h => fitT_no (fun hh => h hh.size)
    rw [hkl, List.take_length]
    clear hkl hlt hk HOK
    by_cases h6 : sizeT L ≤ 65536
    ·have HV := Lib.hid (HALL.out h6)
     have g6 : decide ((sizeT L : Int) ≤ 65536) = true := decide_eq_true (by omega)
     clear h6
     go_wp2
     go_ret
     exact ⟨by rw [HV.out]; rfl, hB⟩
    ·have HV := Lib.hid (HNO.out h6)
     have g6 : decide ((sizeT L : Int) ≤ 65536) = false := decide_eq_false (by omega)
     clear h6
     go_wp2
     go_ret
     exact ⟨by rw [HV.out]; rfl, hB⟩
end Go.Proofs.YtokknppjeckppaaGreatDoor
namespace Go.Proofs.YtokknppjeckppaaGreatDoor
def cs (t : List UInt8) : List (List UInt8) := if t = [] then [] else pts t
theorem cs_inj {a b : List UInt8} (h : cs a = cs b) : a = b := by
 unfold cs at h
 by_cases ha : a = [] <;> by_cases hb : b = []
 ·rw [ha, hb]
 ·rw [if_pos ha, if_neg hb] at h; exact absurd h.symm (pts_ne b)
 ·rw [if_neg ha, if_pos hb] at h; exact absurd h (pts_ne a)
 ·rw [if_neg ha, if_neg hb] at h; exact pts_inj h
structure PathOk (t : List UInt8) : Prop where
 ne : t ≠ []
 pts : cs t = pts t
 split : splitS t = cs t
 len : (cs t).length ≤ 8
 nil : cs t ≠ []
 names : ∀ n ∈ cs t, nameB n = true
theorem path_ok {t : List UInt8} (h : pathB t = true) : PathOk t := by
 have h0 : 0 < (splitS t).length := of_decide_eq_true h
 have h1 := (path_iff t).1 h0
 have hne : t ≠ [] := by
  intro e; subst e
  have := List.all_eq_true.1 h1.2 [] (by decide)
  rw [nameB_nil] at this; cases this
 have hc : cs t = pts t := if_neg hne
 have hs := (splitS_ne (l := t) (by intro e; rw [e] at h0; cases h0)).1
 exact ⟨hne, hc, by rw [hs, hc], by rw [hc]; exact h1.1, by rw [hc]; exact pts_ne t, fun n hn => List.all_eq_true.1 h1.2 n (by rwa [← hc])⟩
theorem cs_dir {t : List UInt8} (h : pathB t = true) : cs (dirS t) = (cs t).dropLast := by
 have P := path_ok h
 unfold dirS
 rw [P.split]
 have ha : (cs t).dropLast.all nameB = true := List.all_eq_true.2 fun n hn => P.names n ((List.dropLast_sublist _).subset hn)
 rw [joinN_small (by rw [List.length_dropLast]; have := P.len; omega) ha]
 cases hd : (cs t).dropLast with
 | nil => rfl
 | cons a r =>
  rw [hd] at ha
  have hf : ∀ p ∈ a :: r, (47 : UInt8) ∉ p := fun p hp => (nameB_iff.1 (List.all_eq_true.1 ha p hp)).2.2.2.2.2
  have hj := pts_joinS (L := a :: r) (by simp) hf
  have hn : joinS (a :: r) ≠ [] := by
   intro e
   rw [e] at hj
   have h1 : a = [] := by injection hj with h1 _; exact h1.symm
   have := List.all_eq_true.1 ha a (by simp)
   rw [h1, nameB_nil] at this; cases this
  unfold cs
  rw [if_neg hn, hj]
theorem cs_last {t : List UInt8} (h : pathB t = true) : cs t = (cs t).dropLast ++ [lastN t] := by
 have P := path_ok h
 unfold lastN
 rw [P.split]
 have hn := P.nil
 rw [List.getLastD_eq_getLast?, List.getLast?_eq_some_getLast hn]
 exact (List.dropLast_concat_getLast hn).symm
theorem dir_iff {t d : List UInt8} (h : pathB t = true) : dirS t = d ↔ cs t = cs d ++ [lastN t] := by
 constructor
 ·rintro rfl; rw [cs_dir h]; exact cs_last h
 ·intro e
  refine cs_inj ?_
  rw [cs_dir h, e]
  simp
theorem cmp_app (x y : List (List UInt8)) : ∀ D : List (List UInt8), cmpP (D ++ x) (D ++ y) = cmpP x y
 | [] => rfl
 | a :: D => by rw [List.cons_append, List.cons_append, cmp_same]; exact cmp_app x y D
theorem cmp_names {a b : List UInt8} (h : cmpP [a] [b] = -1) : a < b := by
 rw [cmp_cons] at h
 by_cases hl : a < b
 ·exact hl
 ·rw [if_neg hl] at h
  by_cases hg : b < a
  ·rw [if_pos hg] at h; cases h
  ·rw [if_neg hg] at h; exact absurd h (by decide)
def pieceN (t : List UInt8) : Nd := ⟨1, ⟨t.toArray⟩, [], []⟩
def partP (t : List UInt8) : Pt := ⟨⟨(keyN (pieceN t)).toArray⟩, t.length⟩
def fileN (c : List UInt8 → Nat) (l : List UInt8) : Nd := ⟨2, ⟨#[]⟩, (pcs c l).map partP, []⟩
def seqF (c : List UInt8 → Nat) (l : List UInt8) : List Nd := (pcs c l).map pieceN ++ [fileN c l]
def It.b (x : It) : List UInt8 := x.c.data.toList
def inD (L : List It) (d : List UInt8) : List It := L.filter fun x => decide (dirS x.t = d)
def entE (x : It) (key : List UInt8) : En := ⟨⟨(lastN x.t).toArray⟩, if x.d then 3 else 2, x.e, ⟨key.toArray⟩⟩
def dirN (c : List UInt8 → Nat) (L : List It) : Nat → List UInt8 → Nd
 | 0, _ => ⟨3, ⟨#[]⟩, [], []⟩
 | k + 1, d => ⟨3, ⟨#[]⟩, [], (inD L d).map fun x => entE x (keyN (if x.d then dirN c L k x.t else fileN c x.b))⟩
def seqD (c : List UInt8 → Nat) (L : List It) : Nat → List UInt8 → List Nd
 | 0, d => [dirN c L 0 d]
 | k + 1, d => ((inD L d).flatMap fun x => if x.d then seqD c L k x.t else seqF c x.b) ++ [dirN c L (k + 1) d]
def subN (c : List UInt8 → Nat) (L : List It) (k : Nat) (x : It) : Nd := if x.d then dirN c L k x.t else fileN c x.b
theorem dirN_es (c : List UInt8 → Nat) (L : List It) (k : Nat) (d : List UInt8) : (dirN c L (k + 1) d).es = (inD L d).map fun x => entE x (keyN (subN c L k x)) := rfl
theorem mem_inD {L : List It} {d : List UInt8} {x : It} : x ∈ inD L d ↔ x ∈ L ∧ dirS x.t = d := by unfold inD; simp
theorem top_mem (c : List UInt8 → Nat) (L : List It) (k : Nat) (d : List UInt8) : dirN c L k d ∈ seqD c L k d := by
 cases k with
 | zero => exact List.mem_singleton.2 rfl
 | succ k => exact List.mem_append_right _ (List.mem_singleton.2 rfl)
theorem file_mem (c : List UInt8 → Nat) (l : List UInt8) : fileN c l ∈ seqF c l := List.mem_append_right _ (List.mem_singleton.2 rfl)
theorem piece_mem {c : List UInt8 → Nat} {l t : List UInt8} (h : t ∈ pcs c l) : pieceN t ∈ seqF c l := List.mem_append_left _ (List.mem_map.2 ⟨t, h, rfl⟩)
theorem sub_dir {c : List UInt8 → Nat} {L : List It} {k : Nat} {d : List UInt8} {x : It} (hx : x ∈ inD L d) (hd : x.d = true) {n : Nd} (hn : n ∈ seqD c L k x.t) : n ∈ seqD c L (k + 1) d :=
 List.mem_append_left _ (List.mem_flatMap.2 ⟨x, hx, by rw [if_pos hd]; exact hn⟩)
theorem sub_file {c : List UInt8 → Nat} {L : List It} {k : Nat} {d : List UInt8} {x : It} (hx : x ∈ inD L d) (hd : x.d = false) {n : Nd} (hn : n ∈ seqF c x.b) : n ∈ seqD c L (k + 1) d :=
 List.mem_append_left _ (List.mem_flatMap.2 ⟨x, hx, by rw [if_neg (by rw [hd]; decide)]; exact hn⟩)
theorem sub_mem {c : List UInt8 → Nat} {L : List It} {k : Nat} {d : List UInt8} {x : It} (hx : x ∈ inD L d) : subN c L k x ∈ seqD c L (k + 1) d := by
 unfold subN
 cases hd : x.d
 ·exact sub_file hx hd (file_mem _ _)
 ·exact sub_dir hx hd (top_mem _ _ _ _)
structure ReadyT (c : List UInt8 → Nat) (L : List It) : Prop where
 fit : TFit L
 cut : ∃ mn mx, CutOk mn mx c ∧ mx ≤ 4096
 few : ∀ x ∈ L, (pcs c x.b).length ≤ 1024
theorem piece_fit {t : List UInt8} (h1 : 1 ≤ t.length) (h2 : t.length ≤ 4096) : fitN (pieceN t) = true := by
 have hs : (pieceN t).d.size = t.length := by unfold pieceN; rw [Lib.size_eq]
 rw [fit_piece rfl, hs]
 simp only [pieceN, List.length_nil, decide_true, Bool.and_true, Bool.and_eq_true, decide_eq_true_eq]
 exact ⟨h1, h2⟩
theorem pcs_sizes {c : List UInt8 → Nat} {L : List It} (R : ReadyT c L) (l : List UInt8) : ∀ t ∈ pcs c l, 1 ≤ t.length ∧ t.length ≤ 4096 := by
 intro t ht
 obtain ⟨mn, mx, H, h4⟩ := R.cut
 obtain ⟨i, hi, e⟩ := List.getElem_of_mem ht
 have := pcs_each H l.length l (Nat.le_refl _) i t (by rw [← e]; exact List.getElem?_eq_getElem hi)
 exact ⟨this.1, Nat.le_trans this.2.1 h4⟩
theorem sum_parts : ∀ P : List (List UInt8), sumPt (P.map partP) = (P.flatten.length : Int)
 | [] => rfl
 | t :: P => by
  rw [List.map_cons, List.flatten_cons, List.length_append]
  show (t.length : Int) + sumPt (P.map partP) = _
  rw [sum_parts P]; omega
theorem file_fit {c : List UInt8 → Nat} {L : List It} (R : ReadyT c L) {x : It} (hx : x ∈ L) : fitN (fileN c x.b) = true := by
 obtain ⟨mn, mx, H, _⟩ := R.cut
 rw [fit_file rfl]
 have h1 := R.few x hx
 have h2 := R.fit.data x hx
 have h3 := pcs_flat H.pos x.b.length x.b (Nat.le_refl _)
 have h4 : x.b.length = x.c.size := by unfold It.b; rw [Lib.size_eq]
 simp only [fileN, List.length_map, List.length_nil, decide_true, Bool.and_true, Bool.and_eq_true, decide_eq_true_eq]
 refine ⟨⟨rfl, h1⟩, fitFile_iff.2 ⟨fun p hp => ?_, ?_⟩⟩
 ·obtain ⟨t, ht, rfl⟩ := List.mem_map.1 hp
  have hs := pcs_sizes R x.b t ht
  refine okPt_iff.2 ⟨?_, ?_, ?_⟩
  ·unfold partP; rw [Lib.size_eq]; exact keyN_len (piece_fit hs.1 hs.2)
  ·unfold partP; simp only; omega
  ·unfold partP; simp only; omega
 ·rw [sum_parts, h3]; omega
theorem dir_fit {c : List UInt8 → Nat} {L : List It} (R : ReadyT c L) : ∀ (k : Nat) (d : List UInt8), fitN (dirN c L k d) = true
 | 0, _ => by show fitN ⟨3, ⟨#[]⟩, [], []⟩ = true; decide
 | k + 1, d => by
  have hsub : ∀ x ∈ inD L d, (keyN (subN c L k x)).length = 32 := fun x hx => by
   unfold subN
   cases hd : x.d
   ·exact keyN_len (file_fit R (mem_inD.1 hx).1)
   ·exact keyN_len (dir_fit R k x.t)
  rw [fit_dir rfl, dirN_es]
  have hl : (inD L d).length ≤ 60 := Nat.le_trans (List.length_filter_le _ _) R.fit.len
  have hz : (dirN c L (k + 1) d).d.size = 0 ∧ (dirN c L (k + 1) d).ps.length = 0 := ⟨rfl, rfl⟩
  rw [hz.1, hz.2, List.length_map]
  simp only [decide_true, Bool.true_and, Bool.and_eq_true, decide_eq_true_eq]
  refine ⟨hl, fitDir_iff.2 ⟨fun e he => ?_, fun i hi h0 => ?_⟩⟩
  ·obtain ⟨x, hx, rfl⟩ := List.mem_map.1 he
   have hL := (mem_inD.1 hx).1
   have hp := R.fit.path x hL
   refine okEn_iff.2 ⟨?_, ?_, ?_⟩
   ·exact (path_ok hp).names _ (by rw [cs_last hp]; simp [entE])
   ·unfold entE; rw [Lib.size_eq]; exact hsub x hx
   ·have hb := R.fit.form x hL
    unfold entE
    cases hd : x.d
    ·exact .inl rfl
    ·refine .inr ⟨rfl, ?_⟩
     unfold badI at hb
     rw [hd] at hb
     simp at hb
     exact hb.2
  ·rw [List.length_map] at hi
   rw [List.getElem_map, List.getElem_map]
   have hr := rise_filter R.fit.rise fun x => decide (dirS x.t = d)
   have ho := List.pairwise_iff_getElem.1 hr (i - 1) i (by show i - 1 < (inD L d).length; omega) hi (by omega)
   have ho : orderS ((inD L d)[i - 1]'(by omega)).t ((inD L d)[i]).t = -1 := ho
   have m1 := mem_inD.1 (List.getElem_mem (l := inD L d) (n := i - 1) (by omega))
   have m2 := mem_inD.1 (List.getElem_mem (l := inD L d) (n := i) hi)
   have p1 := R.fit.path _ m1.1; have p2 := R.fit.path _ m2.1
   have e1 := (dir_iff p1).1 m1.2; have e2 := (dir_iff p2).1 m2.2
   unfold orderS at ho
   rw [← (path_ok p1).pts, ← (path_ok p2).pts, e1, e2, cmp_app] at ho
   have := cmp_names ho
   unfold entE
   simpa using this
theorem seqF_fit {c : List UInt8 → Nat} {L : List It} (R : ReadyT c L) {x : It} (hx : x ∈ L) : ∀ n ∈ seqF c x.b, fitN n = true := by
 intro n hn
 rcases List.mem_append.1 hn with h | h
 ·obtain ⟨t, ht, rfl⟩ := List.mem_map.1 h
  have := pcs_sizes R x.b t ht
  exact piece_fit this.1 this.2
 ·rw [List.mem_singleton.1 h]; exact file_fit R hx
theorem seqD_fit {c : List UInt8 → Nat} {L : List It} (R : ReadyT c L) : ∀ (k : Nat) (d : List UInt8), ∀ n ∈ seqD c L k d, fitN n = true
 | 0, d, n, hn => by rw [List.mem_singleton.1 hn]; exact dir_fit R 0 d
 | k + 1, d, n, hn => by
  rcases List.mem_append.1 hn with h | h
  ·obtain ⟨x, hx, h⟩ := List.mem_flatMap.1 h
   cases hd : x.d
   ·rw [if_neg (by rw [hd]; decide)] at h; exact seqF_fit R (mem_inD.1 hx).1 n h
   ·rw [if_pos hd] at h; exact seqD_fit R k x.t n h
  ·rw [List.mem_singleton.1 h]; exact dir_fit R _ d
def seqT (c : List UInt8 → Nat) (L : List It) : List Nd := seqD c L 9 []
def topT (c : List UInt8 → Nat) (L : List It) : Nd := dirN c L 9 []
def objsT (c : List UInt8 → Nat) (L : List It) : List Ob := putsN [] (seqT c L)
theorem topT_mem (c : List UInt8 → Nat) (L : List It) : topT c L ∈ seqT c L := top_mem c L 9 []
theorem seqT_fit {c : List UInt8 → Nat} {L : List It} (R : ReadyT c L) : ∀ n ∈ seqT c L, fitN n = true := seqD_fit R 9 []
theorem objs_fit (c : List UInt8 → Nat) (L : List It) : FitO (objsT c L) := putsN_fit _ fitO_nil
theorem objs_mem {c : List UInt8 → Nat} {L : List It} {y : Ob} (h : y ∈ objsT c L) : ∃ n ∈ seqT c L, y = obN n := by
 rcases putsN_mem h with h' | h'
 ·cases h'
 ·exact h'
theorem objs_key {c : List UInt8 → Nat} {L : List It} (R : ReadyT c L) {n : Nd} (hn : n ∈ seqT c L) : ∃ y ∈ objsT c L, y.t = keyN n := putsN_key (seqT_fit R) n hn
theorem kids_in {c : List UInt8 → Nat} {L : List It} : ∀ (k : Nat) (d : List UInt8), ∀ n ∈ seqD c L k d, (∀ p ∈ n.ps, ∃ m ∈ seqD c L k d, keyN m = p.k.data.toList) ∧ ∀ e ∈ n.es, ∃ m ∈ seqD c L k d, keyN m = e.k.data.toList
 | 0, d, n, hn => by rw [List.mem_singleton.1 hn]; exact ⟨fun p hp => (by cases hp), fun e he => (by cases he)⟩
 | k + 1, d, n, hn => by
  rcases List.mem_append.1 hn with h | h
  ·obtain ⟨x, hx, h⟩ := List.mem_flatMap.1 h
   cases hd : x.d
   ·rw [if_neg (by rw [hd]; decide)] at h
    rcases List.mem_append.1 h with h | h
    ·obtain ⟨t, _, rfl⟩ := List.mem_map.1 h
     exact ⟨fun p hp => (by cases hp), fun e he => (by cases he)⟩
    ·rw [List.mem_singleton.1 h]
     refine ⟨fun p hp => ?_, fun e he => (by cases he)⟩
     obtain ⟨t, ht, rfl⟩ := List.mem_map.1 hp
     exact ⟨pieceN t, sub_file hx hd (piece_mem ht), by unfold partP; simp⟩
   ·rw [if_pos hd] at h
    obtain ⟨i1, i2⟩ := kids_in k x.t n h
    exact ⟨fun p hp => let ⟨m, hm, e⟩ := i1 p hp; ⟨m, sub_dir hx hd hm, e⟩, fun p hp => let ⟨m, hm, e⟩ := i2 p hp; ⟨m, sub_dir hx hd hm, e⟩⟩
  ·rw [List.mem_singleton.1 h]
   refine ⟨fun p hp => (by cases hp), fun e he => ?_⟩
   rw [dirN_es] at he
   obtain ⟨x, hx, rfl⟩ := List.mem_map.1 he
   exact ⟨subN c L k x, sub_mem hx, by unfold entE; simp⟩
end Go.Proofs.YtokknppjeckppaaGreatDoor
set_option linter.unusedVariables false
namespace Go.Proofs.YtokknppjeckppaaGreatDoor
open Go.RowKit
attribute [local go_sem] Oper.semAt_some
def smallT (c : List UInt8 → Nat) (I : List It) : Bool := I.all fun x => decide ((pcs c x.b).length ≤ 1024)
theorem smallT_no {c : List UInt8 → Nat} {I : List It} {k : Nat} (hk : k < I.length) (h : ¬ (pcs c I[k].b).length ≤ 1024) : smallT c I = false := by
 rw [← Bool.not_eq_true]
 intro hc
 exact h (of_decide_eq_true (List.all_eq_true.1 hc _ (List.getElem_mem hk)))
theorem smallT_step {c : List UInt8 → Nat} {I : List It} {k : Nat} (hk : k < I.length) (h : smallT c (I.take k) = true) (h2 : (pcs c I[k].b).length ≤ 1024) : smallT c (I.take (k + 1)) = true := by
 unfold smallT at h ⊢
 rw [List.take_succ_eq_append_getElem hk, List.all_append, h]; simpa using h2
set_option maxRecDepth 100000 in
set_option maxHeartbeats 8000000 in
theorem rSmallT_any (mn av b mx : Nat) (hF : FitAt mn av mx b) (iv : Value) (I : List It) (w : World) (hi : IsItems w iv I) (hs : ∀ x ∈ I, x.c.size ≤ 100000) :
  Calls Tryz.prog 59 #[pV mn av mx, iv] w fun e w' => e = .returned (.bool (smallT (cutN mn b mx) I)) ∧ Below w.heap.size w w' := by
 have CP := Lib.hid (fun s hs W => refPieces_any mn av b mx hF s hs W)
 obtain ⟨c, hc⟩ : ∃ c, c = cutN mn b mx := ⟨_, rfl⟩
 rw [← hc] at CP ⊢
 obtain ⟨V, hV⟩ : ∃ V, V = w.alloc (.cells #[.int .i64 mn, .int .i64 av, .int .i64 mx] 39) := ⟨_, rfl⟩
 have hbV : Below w.heap.size w V := by rw [hV]; exact (Below.refl _ _).alloc (Nat.le_refl _) _
 have hR0 : Row V w.heap.size #[.int .i64 mn, .int .i64 av, .int .i64 mx] 39 := by rw [hV]; exact Row.made _ _ _
 have HV := Lib.hid hV; have HR0 := Lib.hid hR0; have HB0 := Lib.hid hbV; have HS := Lib.hid hs
 have HI := Lib.hid (hi.stays hbV)
 obtain ⟨hm, a1, cap1, rfl, _, _⟩ := hi
 have hmm : I.length ≤ 9223372036854775807 := by unfold maxLen at hm; omega
 clear hV hbV hR0 hs hc hF hm
 go_enter Tryz.func59, Tryz.ntmps59
 go_wp2_with fail
 rw [← HV.out]
 go_loopw [5] (fun i wr => ∃ (k : Nat), k ≤ I.length ∧ i = .int .i64 k ∧ smallT c (I.take k) = true ∧ Below V.heap.size V wr) (fun i _ => I.length - (intOf i).toNat)
 case atStart => exact ⟨0, Nat.zero_le _, rfl, rfl, Below.refl _ _⟩
 case round =>
  obtain ⟨k, hk, rfl, hS, hB⟩ := hrel
  have HSM := Lib.hid hS; clear hS
  by_cases hlt : k < I.length
  ·obtain ⟨_, _, _, e, _, hc⟩ := HI.out.stays hB
   cases e
   obtain ⟨b1, off, rfl, hbl, g⟩ := hc (by omega)
   obtain ⟨c0, c1, c2, c3⟩ := g k hlt
   clear g hc
   have hbk : decide ((k : Int) < (I.length : Int)) = true := by simpa using (show (k : Int) < I.length by omega)
   have hno := smallT_no (c := c) hlt
   have hst := smallT_step hlt HSM.out
   have hxs := HS.out _ (List.getElem_mem hlt)
   obtain ⟨x, hx⟩ : ∃ x, I[k]'hlt = x := ⟨_, rfl⟩
   rw [hx] at c0 c1 c2 c3 hno hst hxs
   clear hx
   have HR := Lib.hid (HR0.out.step hB)
   have p0 := HR.out.cell 0; have p1 := HR.out.cell 1; have p2 := HR.out.cell 2
   simp only [List.getElem?_toArray, List.getElem?_cons_zero, List.getElem?_cons_succ] at p0 p1 p2
   have C := Lib.hid (CP.out x.c hxs)
   rw [show x.c.data.toList = x.b from rfl] at C
   have HNO := Lib.hid hno; have HST := Lib.hid hst
   clear hno hst
   go_wp2_with fail
   go_still_tail 6, (by kernel_rfl)
   change wpList _ _ _ _ _ wr.drew
   go_wp2_with fail
   refine (C.out _).mono ?_
   rintro e w4 ⟨v4, rfl, hv4, hb4⟩
   have hB4 := below_step hB ((Below.refl wr.heap.size wr).drew.trans hb4)
   obtain ⟨_, a4, cap4, rfl, _, _⟩ := hv4
   clear p0 p1 p2 c0 c1 c2 c3 hb4
   have hsl : (strsOf (pcs c x.b)).length = (pcs c x.b).length := strsOf_len _
   obtain ⟨n, hn⟩ : ∃ n, n = (pcs c x.b).length := ⟨_, rfl⟩
   rw [hsl, ← hn]
   rw [← hn] at HNO HST
   clear hsl hn
   by_cases h1024 : n ≤ 1024
   ·have hq : decide ((1024 : Int) < (n : Int)) = false := by simp; omega
    have HST2 := Lib.hid (HST.out h1024)
    clear h1024
    go_wp2_with fail
    go_roundw
    case rel => exact ⟨k + 1, by omega, by go_num, HST2.out, hB4⟩
    case measure => simp [intOf]; omega
   ·have hq : decide ((1024 : Int) < (n : Int)) = true := by simp; omega
    have HN := Lib.hid (HNO.out h1024)
    clear h1024
    go_wp2
    go_ret
    exact ⟨by rw [HN.out]; rfl, below_step HB0.out hB4⟩
  ·have HN : Hid (smallT c I = true) := Lib.hid (by have := HSM.out; rwa [List.take_of_length_le (by omega)] at this)
   have hge : decide ((k : Int) < (I.length : Int)) = false := by simp; omega
   go_wp2
   go_ret
   exact ⟨by rw [HN.out]; rfl, below_step HB0.out hB⟩
end Go.Proofs.YtokknppjeckppaaGreatDoor
set_option linter.unusedVariables false
namespace Go.Proofs.YtokknppjeckppaaGreatDoor
theorem sum_add {α : Type} (f g : α → Nat) : ∀ L : List α, (L.map fun x => f x + g x).sum = (L.map f).sum + (L.map g).sum
 | [] => rfl
 | x :: L => by simp only [List.map_cons, List.sum_cons, sum_add f g L]; omega
theorem sum_le {α : Type} {f g : α → Nat} : ∀ {L : List α}, (∀ x ∈ L, f x ≤ g x) → (L.map f).sum ≤ (L.map g).sum
 | [], _ => Nat.le_refl _
 | x :: L, h => by
  have h1 := h x (by simp)
  have h2 := sum_le fun y hy => h y (List.mem_cons_of_mem x hy)
  simp only [List.map_cons, List.sum_cons]; omega
theorem sum_zero {α : Type} : ∀ L : List α, (L.map fun _ => 0).sum = 0
 | [] => rfl
 | _ :: L => by simp only [List.map_cons, List.sum_cons, sum_zero L]
theorem sum_swap {α β : Type} (f : α → β → Nat) (M : List β) : ∀ L : List α, (L.map fun x => (M.map fun y => f x y).sum).sum = (M.map fun y => (L.map fun x => f x y).sum).sum
 | [] => by simp only [List.map_nil, List.sum_nil]; exact (sum_zero M).symm
 | x :: L => by
  simp only [List.map_cons, List.sum_cons]
  rw [sum_swap f M L, ← sum_add]
theorem sum_mem {α : Type} {f : α → Nat} {x : α} : ∀ {L : List α}, x ∈ L → f x ≤ (L.map f).sum
 | y :: L, h => by
  simp only [List.map_cons, List.sum_cons]
  rcases List.mem_cons.1 h with rfl | h
  ·omega
  ·have := sum_mem (f := f) h; omega
def wI (x : It) : Nat := x.b.length + 1
def inP (A B : List (List UInt8)) : Bool := decide (A.length < B.length ∧ B.take A.length = A)
def beg (A B : List (List UInt8)) : Bool := decide (A.length ≤ B.length ∧ B.take A.length = A)
def wBelow (I : List It) (A : List (List UInt8)) : Nat := (I.map fun y => if inP A (cs y.t) then wI y else 0).sum
theorem below_self {I : List It} {x : It} (hx : x ∈ I) : wI x + wBelow I (cs x.t) ≤ (I.map fun y => if beg (cs x.t) (cs y.t) then wI y else 0).sum := by
 have h1 : (I.map fun y => if beg (cs x.t) (cs y.t) then wI y else 0).sum = (I.map fun y => (if cs y.t = cs x.t then wI y else 0) + if inP (cs x.t) (cs y.t) then wI y else 0).sum := by
  congr 1
  refine List.map_congr_left fun y _ => ?_
  by_cases h2 : cs y.t = cs x.t
  ·have hb : beg (cs x.t) (cs y.t) = true := decide_eq_true ⟨by rw [h2]; exact Nat.le_refl _, by rw [h2, List.take_length]⟩
   have hp : inP (cs x.t) (cs y.t) = false := decide_eq_false fun h => by have := h.1; rw [h2] at this; omega
   rw [hb, hp, if_pos h2]; simp
  ·by_cases h3 : inP (cs x.t) (cs y.t) = true
   ·have h4 := of_decide_eq_true h3
    have hb : beg (cs x.t) (cs y.t) = true := decide_eq_true ⟨Nat.le_of_lt h4.1, h4.2⟩
    rw [hb, h3, if_neg h2]; simp
   ·have hb : beg (cs x.t) (cs y.t) = false := decide_eq_false fun h => by
     rcases Nat.lt_or_ge (cs x.t).length (cs y.t).length with h5 | h5
     ·exact h3 (decide_eq_true ⟨h5, h.2⟩)
     ·have := h.2
      rw [List.take_of_length_le h5] at this
      exact h2 this
    rw [hb, if_neg h2]
    have : inP (cs x.t) (cs y.t) = false := by simpa using h3
    rw [this]; simp
 rw [h1, sum_add]
 have h6 := sum_mem (f := fun y => if cs y.t = cs x.t then wI y else 0) hx
 rw [if_pos rfl] at h6
 unfold wBelow
 omega
theorem one_only {I : List It} (F : TFit I) (d : List UInt8) (y : It) : ((inD I d).map fun x => if beg (cs x.t) (cs y.t) then wI y else 0).sum ≤ if inP (cs d) (cs y.t) then wI y else 0 := by
 have key : ∀ X : List It, (∀ x ∈ X, x ∈ inD I d) → Rise X → (X.map fun x => if beg (cs x.t) (cs y.t) then wI y else 0).sum ≤ if inP (cs d) (cs y.t) then wI y else 0 := by
  intro X
  induction X with
  | nil => intro _ _; exact Nat.zero_le _
  | cons x X ih =>
   intro hX hr
   obtain ⟨hr1, hr2⟩ := rise_cons.1 hr
   have hx := mem_inD.1 (hX x (by simp))
   have ex := (dir_iff (F.path x hx.1)).1 hx.2
   simp only [List.map_cons, List.sum_cons]
   by_cases hb : beg (cs x.t) (cs y.t) = true
   ·have h1 := of_decide_eq_true hb
    have hp : inP (cs d) (cs y.t) = true := decide_eq_true (by
     have h2 := h1.1
     rw [ex, List.length_append] at h2
     refine ⟨by simp at h2; omega, ?_⟩
     have h3 := congrArg (List.take (cs d).length) h1.2
     rw [List.take_take, ex] at h3
     rw [List.length_append, List.take_left] at h3
     rwa [Nat.min_eq_left (by omega)] at h3)
    have hz : (X.map fun x => if beg (cs x.t) (cs y.t) then wI y else 0).sum = 0 := by
     have : X.map (fun x => if beg (cs x.t) (cs y.t) then wI y else 0) = X.map fun _ => 0 := List.map_congr_left fun u hu => by
      refine if_neg fun hbu => ?_
      have hu2 := mem_inD.1 (hX u (List.mem_cons_of_mem _ hu))
      have eu := (dir_iff (F.path u hu2.1)).1 hu2.2
      have h4 := of_decide_eq_true hbu
      have hl : (cs u.t).length = (cs x.t).length := by rw [eu, ex]; simp
      have he : cs u.t = cs x.t := by rw [← h4.2, ← h1.2, hl]
      have := hr1 u hu
      rw [cs_inj he, order_self] at this
      cases this
     rw [this]; exact sum_zero X
    rw [hz, if_pos hb, if_pos hp]; omega
   ·rw [if_neg hb, Nat.zero_add]
    exact ih (fun u hu => hX u (List.mem_cons_of_mem _ hu)) hr2
 exact key _ (fun x hx => hx) (rise_filter F.rise _)
theorem flat_len {α β : Type} (f : α → List β) : ∀ L : List α, (L.flatMap f).length = (L.map fun x => (f x).length).sum
 | [] => rfl
 | x :: L => by rw [List.flatMap_cons, List.length_append, flat_len f L]; simp
theorem seqF_len {c : List UInt8 → Nat} {I : List It} (R : ReadyT c I) (x : It) : (seqF c x.b).length ≤ wI x := by
 obtain ⟨mn, mx, H, _⟩ := R.cut
 unfold seqF wI
 have := pcs_len H.pos x.b.length x.b (Nat.le_refl _)
 simp; omega
theorem seqD_len {c : List UInt8 → Nat} {I : List It} (R : ReadyT c I) : ∀ (k : Nat) (d : List UInt8), (seqD c I k d).length ≤ 1 + wBelow I (cs d)
 | 0, d => by show 1 ≤ _; omega
 | k + 1, d => by
  show (((inD I d).flatMap fun x => if x.d then seqD c I k x.t else seqF c x.b) ++ [dirN c I (k + 1) d]).length ≤ _
  rw [List.length_append, flat_len]
  have h1 : ((inD I d).map fun x => (if x.d then seqD c I k x.t else seqF c x.b).length).sum ≤ ((inD I d).map fun x => (I.map fun y => if beg (cs x.t) (cs y.t) then wI y else 0).sum).sum := sum_le fun x hx => by
   refine Nat.le_trans ?_ (below_self (mem_inD.1 hx).1)
   cases x.d
   ·have := seqF_len R x; simp; omega
   ·have := seqD_len R k x.t
    have h2 : 1 ≤ wI x := by unfold wI; omega
    simp; omega
  rw [sum_swap] at h1
  have h3 : (I.map fun y => ((inD I d).map fun x => if beg (cs x.t) (cs y.t) then wI y else 0).sum).sum ≤ wBelow I (cs d) := sum_le fun y _ => one_only R.fit d y
  simp only [List.length_singleton]
  omega
theorem wBelow_le (I : List It) (A : List (List UInt8)) : wBelow I A ≤ sizeT I + I.length := by
 unfold wBelow sizeT
 have h1 : (I.map fun y => if inP A (cs y.t) then wI y else 0).sum ≤ (I.map fun y => y.c.size + 1).sum := sum_le fun y _ => by
  have : wI y = y.c.size + 1 := by unfold wI It.b; rw [Lib.size_eq]
  split <;> omega
 rw [sum_add] at h1
 have h2 : (I.map fun _ => 1).sum = I.length := by
  have : ∀ L : List It, (L.map fun _ => 1).sum = L.length := fun L => by induction L with
   | nil => rfl
   | cons x L ih => simp only [List.map_cons, List.sum_cons, ih, List.length_cons]; omega
  exact this I
 omega
theorem seqT_len {c : List UInt8 → Nat} {I : List It} (R : ReadyT c I) : (seqT c I).length ≤ 70000 := by
 have h1 := seqD_len R 9 []
 have h2 := wBelow_le I (cs [])
 have h3 := R.fit.size
 have h4 := R.fit.len
 unfold seqT
 omega
end Go.Proofs.YtokknppjeckppaaGreatDoor
set_option linter.unusedVariables false
namespace Go.Proofs.YtokknppjeckppaaGreatDoor
open Go.RowKit
attribute [local go_sem] Oper.semAt_some
def RdyAt (mn av mx : Int) (I : List It) : Prop := ∃ m a x b : Nat, mn = m ∧ av = a ∧ mx = x ∧ FitAt m a x b ∧ ReadyT (cutN m b x) I
noncomputable def rdyB (mn av mx : Int) (I : List It) : Bool := @decide (RdyAt mn av mx I) (Classical.propDecidable _)
theorem rdyB_yes {mn av mx : Int} {I : List It} (h : RdyAt mn av mx I) : rdyB mn av mx I = true := @decide_eq_true _ (Classical.propDecidable _) h
theorem rdyB_no {mn av mx : Int} {I : List It} (h : ¬ RdyAt mn av mx I) : rdyB mn av mx I = false := @decide_eq_false _ (Classical.propDecidable _) h
theorem rdyB_iff {mn av mx : Int} {I : List It} : rdyB mn av mx I = true ↔ RdyAt mn av mx I := ⟨fun h => @of_decide_eq_true _ (Classical.propDecidable _) h, rdyB_yes⟩
theorem pow_one {b b' : Nat} (h : (2 ^ b : Nat) = 2 ^ b') : b = b' := by
 rcases Nat.lt_trichotomy b b' with e | e | e
 ·have := Nat.pow_lt_pow_right (a := 2) (by decide) e; omega
 ·exact e
 ·have := Nat.pow_lt_pow_right (a := 2) (by decide) e; omega
theorem fitAt_one {m a x b b' : Nat} (h : FitAt m a x b) (h' : FitAt m a x b') : b = b' := by
 have h1 := h.h7; have h2 := h'.h7
 exact pow_one (by exact_mod_cast h1.symm.trans h2)
theorem cut_fit {m a x b : Nat} (h : FitAt m a x b) : ∃ mn mx, CutOk mn mx (cutN m b x) ∧ mx ≤ 4096 :=
 ⟨m, x, cutN_ok (by have := h.h1; omega) (by have := h.h2; have := h.h3; omega), by have := h.h4; omega⟩
theorem rdy_nofit {mn av mx : Int} {I : List It} (h : fitB_Cdm mn av mx = false) : rdyB mn av mx I = false := rdyB_no fun ⟨m, a, x, b, h1, h2, h3, hf, _⟩ => by
 subst h1 h2 h3; exact fitB_not h b hf
theorem rdy_notree {mn av mx : Int} {I : List It} (h : fitT I = false) : rdyB mn av mx I = false := rdyB_no fun ⟨m, a, x, b, h1, h2, h3, hf, hr⟩ => by
 rw [fitT_yes hr.fit] at h; cases h
theorem rdy_small {m a x b : Nat} {I : List It} (hf : FitAt m a x b) (ht : fitT I = true) : rdyB m a x I = smallT (cutN m b x) I := by
 cases hs : smallT (cutN m b x) I
 ·refine rdyB_no fun ⟨m', a', x', b', h1, h2, h3, hf', hr⟩ => ?_
  have e1 : m = m' := by exact_mod_cast h1
  have e2 : a = a' := by exact_mod_cast h2
  have e3 : x = x' := by exact_mod_cast h3
  subst e1 e2 e3
  obtain rfl := fitAt_one hf hf'
  have : smallT (cutN m b x) I = true := List.all_eq_true.2 fun y hy => decide_eq_true (hr.few y hy)
  rw [hs] at this; cases this
 ·exact rdyB_yes ⟨m, a, x, b, rfl, rfl, rfl, hf, fitT_iff.1 ht, cut_fit hf, fun y hy => of_decide_eq_true (List.all_eq_true.1 hs y hy)⟩
set_option maxRecDepth 100000 in
set_option maxHeartbeats 4000000 in
theorem rReady_any (mn av mx : Int) (iv : Value) (I : List It) (w : World) (hi : IsItems w iv I) (hf : fewB I = true) :
  Calls Tryz.prog 42 #[pV mn av mx, iv] w fun e w' => e = .returned (.bool (rdyB mn av mx I)) ∧ Below w.heap.size w w' := by
 obtain ⟨V, hV⟩ : ∃ V, V = w.alloc (.cells #[.int .i64 mn, .int .i64 av, .int .i64 mx] 39) := ⟨_, rfl⟩
 have hbV : Below w.heap.size w V := by rw [hV]; exact (Below.refl _ _).alloc (Nat.le_refl _) _
 have hR0 : Row V w.heap.size #[.int .i64 mn, .int .i64 av, .int .i64 mx] 39 := by rw [hV]; exact Row.made _ _ _
 have HV := Lib.hid hV; have HR0 := Lib.hid hR0; have HB0 := Lib.hid hbV
 have HI := Lib.hid (hi.stays hbV)
 have hsz : ∀ x ∈ I, x.c.size ≤ 100000 := fun x hx => by have := (few_mem hf x hx).2; omega
 have C1 := Lib.hid (refFit_any_Cdw mn av mx)
 have C2 := Lib.hid (fun W (hb : Below V.heap.size V W) => rFit_any_Tif iv I W (HI.out.stays hb) hf)
 have p0 := hR0.cell 0; have p1 := hR0.cell 1; have p2 := hR0.cell 2
 simp only [List.getElem?_toArray, List.getElem?_cons_zero, List.getElem?_cons_succ] at p0 p1 p2
 have HS := Lib.hid hsz
 obtain ⟨_, a1, cap1, rfl, _, _⟩ := hi
 clear hV hbV hR0 hf hsz
 rcases h1 : fitB_Cdm mn av mx with _ | _
 ·have HN := Lib.hid (rdy_nofit (I := I) h1)
  rw [h1] at C1
  clear h1
  go_enter Tryz.func42, Tryz.ntmps42
  go_wp2_with fail
  rw [← HV.out]
  go_wp2_with fail
  refine (C1.out _).mono ?_
  rintro e w1 ⟨rfl, hb1⟩
  go_wp2
  go_ret
  exact ⟨by rw [HN.out]; rfl, below_step HB0.out hb1⟩
 ·obtain ⟨b, hb⟩ := fitB_true_Cdm h1
  rcases h2 : fitT I with _ | _
  ·have HN := Lib.hid (rdy_notree (mn := mn) (av := av) (mx := mx) h2)
   rw [h1] at C1; rw [h2] at C2
   clear h1 h2
   go_enter Tryz.func42, Tryz.ntmps42
   go_wp2_with fail
   rw [← HV.out]
   go_wp2_with fail
   refine (C1.out _).mono ?_
   rintro e w1 ⟨rfl, hb1⟩
   clear p0 p1 p2
   go_wp2_with fail
   refine (C2.out _ hb1).mono ?_
   rintro e w2 ⟨rfl, hb2⟩
   go_wp2
   go_ret
   exact ⟨by rw [HN.out]; rfl, below_step HB0.out (below_step hb1 hb2)⟩
  ·obtain ⟨m, rfl⟩ : ∃ m : Nat, mn = m := ⟨mn.toNat, by have := hb.h1; omega⟩
   obtain ⟨a, rfl⟩ : ∃ a : Nat, av = a := ⟨av.toNat, by have := hb.h1; have := hb.h2; omega⟩
   obtain ⟨x, rfl⟩ : ∃ x : Nat, mx = x := ⟨mx.toNat, by have := hb.h1; have := hb.h2; have := hb.h3; omega⟩
   have HN := Lib.hid (rdy_small hb h2)
   have C3 := Lib.hid (fun W (hbw : Below V.heap.size V W) => rSmallT_any m a b x hb (.slice a1 I.length cap1) I W (HI.out.stays hbw) HS.out)
   rw [← HN.out] at C3
   rw [h1] at C1; rw [h2] at C2
   clear h1 h2 hb
   go_enter Tryz.func42, Tryz.ntmps42
   go_wp2_with fail
   rw [← HV.out]
   go_wp2_with fail
   refine (C1.out _).mono ?_
   rintro e w1 ⟨rfl, hb1⟩
   clear p0 p1 p2
   go_wp2_with fail
   refine (C2.out _ hb1).mono ?_
   rintro e w2 ⟨rfl, hb2⟩
   have hb3 := below_step hb1 hb2
   have hR2 := HR0.out.step hb3
   have p0 := hR2.cell 0; have p1 := hR2.cell 1; have p2 := hR2.cell 2
   simp only [List.getElem?_toArray, List.getElem?_cons_zero, List.getElem?_cons_succ] at p0 p1 p2
   clear hb1 hb2 hR2
   go_wp2_with fail
   refine (C3.out _ hb3).mono ?_
   rintro e w4 ⟨rfl, hb4⟩
   go_wp2
   go_ret
   exact ⟨rfl, below_step HB0.out (below_step hb3 hb4)⟩
def fewT (mn av mx : Int) (I : List It) : Prop := I.length ≤ 70 ∧ sizeT I ≤ 6000 ∧ (∀ x ∈ I, x.p.size ≤ 400) ∧ RdyAt mn av mx I
noncomputable def fewTB (mn av mx : Int) (I : List It) : Bool := @decide (fewT mn av mx I) (Classical.propDecidable _)
theorem fewTB_yes {mn av mx : Int} {I : List It} (h : fewT mn av mx I) : fewTB mn av mx I = true := @decide_eq_true _ (Classical.propDecidable _) h
theorem fewTB_iff {mn av mx : Int} {I : List It} : fewTB mn av mx I = true ↔ fewT mn av mx I := ⟨fun h => @of_decide_eq_true _ (Classical.propDecidable _) h, fewTB_yes⟩
end Go.Proofs.YtokknppjeckppaaGreatDoor
set_option linter.unusedVariables false
namespace Go.Proofs.YtokknppjeckppaaGreatDoor
open Go.ChangeShapes Go.WideShapes Go.ChangeAt Go.RowKit Go.Joins
set_option maxRecDepth 100000 in
theorem open_params {H : Type} {enc : TypeId × Value → H} {W : World} {r : Reach} {b0 : Nat} {base : Nat} {spare : Nat → Bool} {held : Bool} {v : Value} {d : DataW H} {p : List MemPlace}
  (hv : Value.okWide Tryz.prog W r b0 39 v) (h : DataW.Trod enc Tryz.prog W base spare held 39 v d p) : ∃ mn av mx : Int, v = pV mn av mx := by
 obtain ⟨v0, v1, v2, y0, y1, y2, n, rfl, _, _, h0, h1, h2⟩ := open_agg3 Tryz.underlying39 (by kernel_rfl) (by kernel_rfl) hv h
 obtain ⟨a, ha, _, _⟩ := DataW.trod_int Tryz.underlying3 h0
 obtain ⟨b, hb, _, _⟩ := DataW.trod_int Tryz.underlying3 h1
 obtain ⟨c, hc, _, _⟩ := DataW.trod_int Tryz.underlying3 h2
 simp only [List.cons.injEq, and_true] at ha hb hc
 subst ha hb hc
 exact ⟨a, b, c, rfl⟩
end Go.Proofs.YtokknppjeckppaaGreatDoor
set_option linter.unusedVariables false
namespace Go.Proofs.YtokknppjeckppaaGreatDoor
open Classical in
noncomputable def readN (s : List UInt8) : Option Nd := if h : ∃ n, fitN n = true ∧ wrL n = s then some h.choose else none
theorem readN_wr {n : Nd} (h : fitN n = true) : readN (wrL n) = some n := by
 have hx : ∃ m, fitN m = true ∧ wrL m = wrL n := ⟨n, h, rfl⟩
 unfold readN
 rw [dif_pos hx]
 exact congrArg some (wrL_inj hx.choose_spec.1 h hx.choose_spec.2)
theorem readN_some {s : List UInt8} {n : Nd} (h : readN s = some n) : fitN n = true ∧ wrL n = s := by
 unfold readN at h
 by_cases hx : ∃ n, fitN n = true ∧ wrL n = s
 ·rw [dif_pos hx] at h
  rw [← Option.some.inj h]
  exact hx.choose_spec
 ·rw [dif_neg hx] at h; cases h
theorem readN_rd {s : List UInt8} {n : Nd} {e : Int} (h : RdOk s n e) : (e = 0 ∧ readN s = some n) ∨ (e = 2 ∧ n = zeroNd ∧ readN s = none) := by
 rcases h with ⟨h1, h2, h3⟩ | ⟨h1, h2, h3⟩
 ·exact .inl ⟨h1, by rw [← h3]; exact readN_wr h2⟩
 ·refine .inr ⟨h1, h2, ?_⟩
  cases hr : readN s with
  | none => rfl
  | some m => exact absurd (readN_some hr).2 (h3 m (readN_some hr).1)
end Go.Proofs.YtokknppjeckppaaGreatDoor
set_option linter.unusedVariables false
namespace Go.Proofs.YtokknppjeckppaaGreatDoor
open Go.RowKit
attribute [local go_sem] Oper.semAt_some
theorem rWriteF_any (n : Nd) (pv ev : Value) (w : World) (hp : IsParts w pv n.ps) (he : IsEntries w ev n.es) (hf : fitN n = true) :
  Calls Tryz.prog 49 #[ndV n pv ev] w fun e w' => e = .returned (.string ⟨(wrN n).toArray⟩) ∧ Below w.heap.size w w' := by
 rw [wrN_fit hf]
 obtain ⟨kd, d, ps, es⟩ := n
 rcases fit_kinds hf with h | h | h <;> simp only at h <;> subst h
 ·obtain ⟨_, _, h3, h4⟩ := fit1 rfl hf
  simp only at h3 h4; subst h3 h4
  exact rWrite1 d pv ev w hp he hf
 ·obtain ⟨h1, h2, _, _⟩ := fit2 rfl hf
  simp only at h1 h2; subst h1 h2
  exact rWrite2 ps pv ev w hp he hf
 ·obtain ⟨h1, h2, _, _⟩ := fit3 rfl hf
  simp only at h1 h2; subst h1 h2
  exact rWrite3 es pv ev w hp he hf
set_option maxRecDepth 100000 in
set_option maxHeartbeats 1000000 in
theorem rWrite_any (n : Nd) (pv ev : Value) (w : World) (hp : IsParts w pv n.ps) (he : IsEntries w ev n.es) :
  Calls Tryz.prog 49 #[ndV n pv ev] w fun e w' => e = .returned (.string ⟨(wrN n).toArray⟩) ∧ Below w.heap.size w w' := by
 rcases hf : fitN n with _ | _
 ·have HN := Lib.hid (wrN_un hf)
  obtain ⟨_, a1, cap1, hv1, _, _⟩ := id hp
  obtain ⟨_, a2, cap2, hv2, _, _⟩ := id he
  subst hv1 hv2
  have hb0 := (Below.refl w.heap.size w).alloc (Nat.le_refl _) (.cells #[.int .i64 n.kd, .string n.d, .slice a1 n.ps.length cap1, .slice a2 n.es.length cap2] 53)
  have RF := Lib.hid (rFit_any n _ _ _ (hp.stays hb0) (he.stays hb0))
  rw [hf] at RF
  clear hf hp he
  go_enter Tryz.func49, Tryz.ntmps49
  go_wp2_with fail
  refine RF.out.mono ?_
  rintro e w1 ⟨rfl, hb1⟩
  go_wp2
  go_ret
  exact ⟨by rw [HN.out]; rfl, below_step hb0 hb1⟩
 ·exact rWriteF_any n pv ev w hp he hf
def keysP (L : List Pt) : List Txt := L.map (·.k.data.toList)
def keysE (L : List En) : List Txt := L.map (·.k.data.toList)
def kidsN (n : Nd) : List Txt := keysP n.ps ++ keysE n.es
theorem keysP_step {L : List Pt} {k : Nat} (hk : k < L.length) : keysP (L.take (k + 1)) = keysP (L.take k) ++ [L[k].k.data.toList] := by
 unfold keysP; rw [List.take_succ_eq_append_getElem hk, List.map_append]; rfl
theorem keysE_step {L : List En} {k : Nat} (hk : k < L.length) : keysE (L.take (k + 1)) = keysE (L.take k) ++ [L[k].k.data.toList] := by
 unfold keysE; rw [List.take_succ_eq_append_getElem hk, List.map_append]; rfl
theorem wpList_append_txt2 {ops : Array Oper} {rest : List Oper} {o : Oper} {a : Act} {W w0 : World} {z : Nat} {Q : Exit → Act → World → Prop} (hgd : o.guard = none) (s x : Operand)
  (ho : o.op = .call { callee := .builtin .append, args := #[s, x], argTypes := #[23, 23] })
  {v : Value} {M : List (List UInt8)} {y : ByteArray} (hown : OwnTxt W w0 v M) (hb : Below W.heap.size W w0) (hz : z = w0.heap.size) (hs : a.eval s = v)
  (hx : a.eval x = .slice (some ⟨z, 0, none⟩) 1 1) (hlen : M.length ≤ 1000000)
  (h : ∀ v' w', OwnTxt W w' v' (M ++ [y.data.toList]) → Below W.heap.size W w' → wpList Tryz.prog ops Q rest (a.put o.dst v') w') :
  wpList Tryz.prog ops Q (o :: rest) a (w0.alloc (.cells #[.string y] 9)) := by
 subst hz
 exact wpList_append_txt hgd s x ho hown hb hs hx hlen h
theorem keysP_len (L : List Pt) : (keysP L).length = L.length := List.length_map ..
theorem keysE_len (L : List En) : (keysE L).length = L.length := List.length_map ..
end Go.Proofs.YtokknppjeckppaaGreatDoor
set_option linter.unusedVariables false
namespace Go.Proofs.YtokknppjeckppaaGreatDoor
noncomputable def nodeO (O : List Ob) (t : Txt) : Option Nd := (getO O t).bind fun y => readN y.u
noncomputable def kidsO (O : List Ob) (t : Txt) : List Txt := match nodeO O t with
 | none => []
 | some n => kidsN n
inductive ReachO (O : List Ob) (F : List Txt) : Txt → Prop
 | start {t : Txt} : t ∈ F → t.length = 32 → ReachO O F t
 | kid {t u : Txt} : ReachO O F t → u ∈ kidsO O t → ReachO O F u
def WholeO (O : List Ob) (F : List Txt) : Prop := ∀ t, ReachO O F t → (nodeO O t).isSome = true
theorem kidsN_len {n : Nd} (h : fitN n = true) : ∀ t ∈ kidsN n, t.length = 32 := by
 intro t ht
 rcases fit_kinds h with e | e | e
 ·obtain ⟨_, _, h1, h2⟩ := fit1 e h
  unfold kidsN at ht
  rw [h1, h2] at ht
  cases ht
 ·obtain ⟨_, h1, _, h2⟩ := fit2 e h
  unfold kidsN at ht
  rw [h1] at ht
  rcases List.mem_append.1 ht with ht | ht
  ·obtain ⟨p, hp, rfl⟩ := List.mem_map.1 ht
   have := (okPt_iff.1 ((fitFile_iff.1 h2).1 p hp)).1
   rw [← Lib.size_eq]; exact this
  ·cases ht
 ·obtain ⟨_, h1, _, h2⟩ := fit3 e h
  unfold kidsN at ht
  rw [h1] at ht
  rcases List.mem_append.1 ht with ht | ht
  ·cases ht
  ·obtain ⟨p, hp, rfl⟩ := List.mem_map.1 ht
   have := (okEn_iff.1 ((fitDir_iff.1 h2).1 p hp)).2.1
   rw [← Lib.size_eq]; exact this
theorem nodeO_fit {O : List Ob} {t : Txt} {n : Nd} (h : nodeO O t = some n) : fitN n = true := by
 unfold nodeO at h
 cases hg : getO O t with
 | none => rw [hg] at h; cases h
 | some y => rw [hg] at h; exact (readN_some h).1
theorem kidsO_len {O : List Ob} {t u : Txt} (h : u ∈ kidsO O t) : u.length = 32 := by
 unfold kidsO at h
 cases hn : nodeO O t with
 | none => rw [hn] at h; cases h
 | some n => rw [hn] at h; exact kidsN_len (nodeO_fit hn) u h
theorem reach_len {O : List Ob} {F : List Txt} {t : Txt} (h : ReachO O F t) : t.length = 32 := by
 induction h with
 | start _ h => exact h
 | kid _ h _ => exact kidsO_len h
theorem reach_mono {O : List Ob} {F G : List Txt} (h : ∀ t ∈ F, t.length = 32 → ReachO O G t) {t : Txt} (ht : ReachO O F t) : ReachO O G t := by
 induction ht with
 | start h1 h2 => exact h _ h1 h2
 | kid _ h1 ih => exact .kid ih h1
theorem reach_two {O : List Ob} {F G : List Txt} (t : Txt) : ReachO O (F ++ G) t ↔ ReachO O F t ∨ ReachO O G t := by
 constructor
 ·intro h
  induction h with
  | start h1 h2 => exact (List.mem_append.1 h1).imp (.start · h2) (.start · h2)
  | kid _ h1 ih => exact ih.imp (.kid · h1) (.kid · h1)
 ·rintro (h | h)
  ·exact reach_mono (fun u hu h2 => .start (List.mem_append_left _ hu) h2) h
  ·exact reach_mono (fun u hu h2 => .start (List.mem_append_right _ hu) h2) h
theorem count_sub {α : Type} [DecidableEq α] (f : α → Bool) : ∀ {P B : List α}, P.Nodup → (∀ t ∈ P, t ∈ B) → P.countP f ≤ B.countP f
 | [], B, _, _ => by simp
 | x :: P, B, hn, hs => by
  have hx : x ∈ B := hs x (List.mem_cons_self ..)
  have hp := List.perm_cons_erase hx
  rw [hp.countP_eq f, List.countP_cons, List.countP_cons]
  have hn' := List.nodup_cons.1 hn
  have := count_sub f (P := P) (B := B.erase x) hn'.2 (fun t ht => (List.mem_erase_of_ne (fun e => hn'.1 (by rw [← e]; exact ht))).2 (hs t (List.mem_cons_of_mem _ ht)))
  omega
theorem count_same {α : Type} [DecidableEq α] (f : α → Bool) {P B : List α} (hP : P.Nodup) (hB : B.Nodup) (h : ∀ t, t ∈ P ↔ t ∈ B) : P.countP f = B.countP f :=
 Nat.le_antisymm (count_sub f hP fun t ht => (h t).1 ht) (count_sub f hB fun t ht => (h t).2 ht)
theorem count_two {α : Type} [DecidableEq α] (f : α → Bool) {A D B : List α} (hA : A.Nodup) (hD : D.Nodup) (hB : B.Nodup) (hd : ∀ t ∈ A, t ∉ D) (h : ∀ t, t ∈ B ↔ t ∈ A ∨ t ∈ D) : B.countP f = A.countP f + D.countP f := by
 rw [← List.countP_append]
 refine count_same f hB ?_ fun t => by rw [h, List.mem_append]
 rw [List.nodup_append]
 exact ⟨hA, hD, fun a ha b hb e => hd a ha (by rw [e]; exact hb)⟩
noncomputable def nmO (O : List Ob) (A : List Txt) (k : Txt) : Nat := A.countP fun j => decide (k ∈ kidsO O j)
def oneK (k r : Txt) : Nat := if k = r then 1 else 0
noncomputable def ofF (O : List Ob) (R A : List Txt) (k : Txt) : Nat := R.count k + nmO O A k
def AllR (O : List Ob) (R A : List Txt) : Prop := A.Nodup ∧ ∀ t, t ∈ A ↔ ReachO O R t
theorem nm_pos {O : List Ob} {A : List Txt} {k : Txt} : 0 < nmO O A k ↔ ∃ j ∈ A, k ∈ kidsO O j := by
 unfold nmO
 rw [List.countP_pos_iff]
 constructor
 ·rintro ⟨j, h1, h2⟩; exact ⟨j, h1, of_decide_eq_true h2⟩
 ·rintro ⟨j, h1, h2⟩; exact ⟨j, h1, decide_eq_true h2⟩
theorem reach_cases {O : List Ob} {R : List Txt} {t : Txt} : ReachO O R t ↔ (t ∈ R ∧ t.length = 32) ∨ ∃ j, ReachO O R j ∧ t ∈ kidsO O j :=
  ⟨fun h => by
    cases h with
    | start h1 h2 => exact .inl ⟨h1, h2⟩
    | kid h1 h2 => exact .inr ⟨_, h1, h2⟩,
   fun h => h.elim (fun h => .start h.1 h.2) fun ⟨j, h1, h2⟩ => .kid h1 h2⟩
theorem of_pos {O : List Ob} {R A : List Txt} (hA : AllR O R A) {t : Txt} (h32 : t.length = 32) : 0 < ofF O R A t ↔ ReachO O R t := by
 unfold ofF
 rw [reach_cases]
 constructor
 ·intro h
  rcases Nat.eq_zero_or_pos (R.count t) with h0 | h0
  ·obtain ⟨j, h1, h2⟩ := nm_pos.1 (by omega : 0 < nmO O A t)
   exact .inr ⟨j, (hA.2 j).1 h1, h2⟩
  ·exact .inl ⟨List.count_pos_iff.1 h0, h32⟩
 ·rintro (⟨h1, _⟩ | ⟨j, h1, h2⟩)
  ·have := List.count_pos_iff.2 h1; omega
  ·have := nm_pos.2 ⟨j, (hA.2 j).2 h1, h2⟩; omega
theorem of_zero {O : List Ob} {R A : List Txt} (hA : AllR O R A) {t : Txt} (h32 : t.length = 32) : ofF O R A t = 0 ↔ ¬ ReachO O R t := by
 rw [← of_pos hA h32]; omega
inductive FreshO (O : List Ob) (c : Txt → Nat) (r : Txt) : Txt → Prop
 | start : c r = 0 → FreshO O c r r
 | kid {t u : Txt} : FreshO O c r t → u ∈ kidsO O t → c u = 0 → FreshO O c r u
noncomputable def plusF (O : List Ob) (c : Txt → Nat) (r : Txt) (F : List Txt) (k : Txt) : Nat := c k + oneK k r + nmO O F k
theorem fresh_iff {O : List Ob} {R A : List Txt} (hA : AllR O R A) {r : Txt} (hr : r.length = 32) {t : Txt} : FreshO O (ofF O R A) r t ↔ ReachO O [r] t ∧ ¬ ReachO O R t := by
 constructor
 ·intro h
  induction h with
  | start h => exact ⟨.start (List.mem_singleton.2 rfl) hr, (of_zero hA hr).1 h⟩
  | kid _ h1 h2 ih => exact ⟨.kid ih.1 h1, (of_zero hA (kidsO_len h1)).1 h2⟩
 ·rintro ⟨h1, h2⟩
  induction h1 with
  | start h h3 => rw [List.mem_singleton.1 h] at h2 ⊢; exact .start ((of_zero hA hr).2 h2)
  | kid _ h3 ih => exact .kid (ih fun h => h2 (.kid h h3)) h3 ((of_zero hA (kidsO_len h3)).2 h2)
def OneMore (R R' : List Txt) (r : Txt) : Prop := ∀ k, R'.count k = R.count k + oneK k r
theorem OneMore.mem {R R' : List Txt} {r : Txt} (h : OneMore R R' r) (t : Txt) : t ∈ R' ↔ t ∈ R ∨ t = r := by
 rw [← List.count_pos_iff, ← List.count_pos_iff, h t]
 unfold oneK
 by_cases e : t = r
 ·rw [if_pos e]; constructor
  ·intro _; exact .inr e
  ·intro _; omega
 ·rw [if_neg e]; constructor
  ·intro h; exact .inl (by omega)
  ·rintro (h | h)
   ·omega
   ·exact absurd h e
theorem OneMore.reach {O : List Ob} {R R' : List Txt} {r : Txt} (h : OneMore R R' r) (t : Txt) : ReachO O R' t ↔ ReachO O R t ∨ ReachO O [r] t := by
 rw [← reach_two]
 constructor
 ·exact reach_mono fun u hu h2 => .start (by rcases (h.mem u).1 hu with h | h <;> simp [h]) h2
 ·exact reach_mono fun u hu h2 => .start ((h.mem u).2 (by simpa using hu)) h2
theorem oneMore_snoc (R : List Txt) (r : Txt) : OneMore R (R ++ [r]) r := fun k => by
 rw [List.count_append, List.count_singleton]
 unfold oneK
 by_cases e : k = r
 ·subst e; simp
 ·rw [if_neg e, if_neg (by simpa using fun h => e h.symm)]
theorem oneMore_cons (R : List Txt) (r : Txt) : OneMore R (r :: R) r := fun k => by
 rw [List.count_cons]
 unfold oneK
 by_cases e : k = r
 ·subst e; simp
 ·rw [if_neg e, if_neg (by simpa using fun h => e h.symm)]
theorem plus_of {O : List Ob} {R R' A B F : List Txt} {r : Txt} (hr : r.length = 32) (hA : AllR O R A) (hB : AllR O R' B) (hR : OneMore R R' r) (hF : F.Nodup) (hf : ∀ t, t ∈ F ↔ FreshO O (ofF O R A) r t) (k : Txt) :
  plusF O (ofF O R A) r F k = ofF O R' B k := by
 have h := count_two (fun j => decide (k ∈ kidsO O j)) hA.1 hF hB.1 (fun t ht h => ((fresh_iff hA hr).1 ((hf t).1 h)).2 ((hA.2 t).1 ht)) (fun t => by
  rw [hB.2, hR.reach, hA.2, hf, fresh_iff hA hr]
  by_cases e : ReachO O R t <;> simp [e])
 unfold plusF ofF nmO
 rw [h, hR k]
 omega
structure DropsO (O : List Ob) (c : Txt → Nat) (r : Txt) (D : List Txt) : Prop where
 nodup : D.Nodup
 each : ∀ i (h : i < D.length), 1 ≤ c D[i] ∧ c D[i] ≤ oneK D[i] r + nmO O (D.take i) D[i]
 full : ∀ t, 1 ≤ c t → c t ≤ oneK t r + nmO O D t → t ∈ D
noncomputable def minusF (O : List Ob) (c : Txt → Nat) (r : Txt) (D : List Txt) (k : Txt) : Nat := c k - oneK k r - nmO O D k
theorem drops_in {O : List Ob} {c : Txt → Nat} {r : Txt} {D E : List Txt} (h : DropsO O c r D) (k : DropsO O c r E) : ∀ n i (hi : i < D.length), i < n → D[i] ∈ E
 | 0, _, _, h => by omega
 | n + 1, i, hi, hin => by
  have ih := drops_in h k n
  obtain ⟨h1, h2⟩ := h.each i hi
  refine k.full _ h1 (Nat.le_trans h2 (Nat.add_le_add_left ?_ _))
  refine count_sub _ (h.nodup.sublist (List.take_sublist _ _)) fun t ht => ?_
  obtain ⟨j, hj, rfl⟩ := List.getElem_of_mem ht
  rw [List.length_take] at hj
  rw [List.getElem_take]
  exact ih j (by omega) (by omega)
theorem drops_one {O : List Ob} {c : Txt → Nat} {r : Txt} {D E : List Txt} (h : DropsO O c r D) (k : DropsO O c r E) (t : Txt) : minusF O c r D t = minusF O c r E t := by
 unfold minusF nmO
 rw [count_same _ h.nodup k.nodup fun t => ⟨fun ht => ?_, fun ht => ?_⟩]
 ·obtain ⟨i, hi, rfl⟩ := List.getElem_of_mem ht
  exact drops_in h k (i + 1) i hi (Nat.lt_succ_self _)
 ·obtain ⟨i, hi, rfl⟩ := List.getElem_of_mem ht
  exact drops_in k h (i + 1) i hi (Nat.lt_succ_self _)
theorem fresh_one {O : List Ob} {c : Txt → Nat} {r : Txt} {F G : List Txt} (hF : F.Nodup) (hG : G.Nodup) (hf : ∀ t, t ∈ F ↔ FreshO O c r t) (hg : ∀ t, t ∈ G ↔ FreshO O c r t) (t : Txt) : plusF O c r F t = plusF O c r G t := by
 unfold plusF nmO
 rw [count_same _ hF hG fun t => by rw [hf, hg]]
def NoRing (O : List Ob) : Prop := ∃ rk : Txt → Nat, ∀ t, ∀ u ∈ kidsO O t, rk u < rk t
theorem drops_mem {O : List Ob} {R R' A B D : List Txt} {r : Txt} (hr : r.length = 32) (hA : AllR O R A) (hB : AllR O R' B) (hR : OneMore R R' r) (hD : DropsO O (ofF O R' B) r D) (hn : NoRing O) (t : Txt) : t ∈ D ↔ t ∈ B ∧ t ∉ A := by
 have hAB : ∀ t ∈ A, t ∈ B := fun t ht => (hB.2 t).2 ((hR.reach t).2 (.inl ((hA.2 t).1 ht)))
 have fwd : ∀ n i (hi : i < D.length), i < n → D[i] ∈ B ∧ D[i] ∉ A := by
  intro n
  induction n with
  | zero => intro i _ h; omega
  | succ n ih =>
   intro i hi hin
   obtain ⟨h1, h2⟩ := hD.each i hi
   obtain ⟨s, hs⟩ : ∃ s, s = D[i] := ⟨_, rfl⟩
   have hnotin : s ∉ D.take i := fun hm => by
    obtain ⟨j, hj, e⟩ := List.getElem_of_mem hm
    rw [List.length_take] at hj
    rw [List.getElem_take, hs] at e
    have := (List.getElem_inj hD.nodup).1 e
    omega
   rw [← hs] at h1 h2 ⊢
   have hpre : ∀ j ∈ D.take i, j ∈ B ∧ j ∉ A := fun j hj => by
    obtain ⟨q, hq, rfl⟩ := List.getElem_of_mem hj
    rw [List.length_take] at hq
    rw [List.getElem_take]
    exact ih q (by omega) (by omega)
   have hpn := hD.nodup.sublist (List.take_sublist i D)
   have hle : nmO O (D.take i) s ≤ nmO O B s := count_sub _ hpn fun j hj => (hpre j hj).1
   have hc : ofF O R' B s = R.count s + oneK s r + nmO O B s := by unfold ofF; rw [hR s]
   have h32 : s.length = 32 := by
    rcases Nat.eq_zero_or_pos (oneK s r) with h0 | h0
    ·obtain ⟨j, _, hj⟩ := nm_pos.1 (show 0 < nmO O (D.take i) s by omega)
     exact kidsO_len hj
    ·unfold oneK at h0
     split at h0
     ·rename_i e; rw [e]; exact hr
     ·omega
   refine ⟨(hB.2 s).2 ((of_pos hB h32).1 (by omega)), fun ha => ?_⟩
   rcases reach_cases.1 ((hA.2 s).1 ha) with ⟨h3, _⟩ | ⟨j, h3, h4⟩
   ·have := List.count_pos_iff.2 h3; omega
   ·have hj := (hA.2 j).2 h3
    have := count_sub (fun j => decide (s ∈ kidsO O j)) (P := j :: D.take i) (B := B) (List.nodup_cons.2 ⟨fun h => (hpre j h).2 hj, hpn⟩) (fun q hq => by
     rcases List.mem_cons.1 hq with rfl | hq
     ·exact hAB _ hj
     ·exact (hpre q hq).1)
    rw [List.countP_cons, if_pos (decide_eq_true h4)] at this
    unfold nmO at hc h2
    omega
 obtain ⟨rk, hrk⟩ := hn
 have hbd : ∃ M, ∀ t ∈ B, rk t ≤ M := by
  clear fwd hAB hD hB
  induction B with
  | nil => exact ⟨0, fun t h => by cases h⟩
  | cons x B ih =>
   obtain ⟨M, h⟩ := ih
   exact ⟨max (rk x) M, fun t ht => by
    rcases List.mem_cons.1 ht with rfl | ht
    ·omega
    ·have := h t ht; omega⟩
 obtain ⟨M, hM⟩ := hbd
 have bwd : ∀ n t, M - rk t < n → t ∈ B → t ∉ A → t ∈ D := by
  intro n
  induction n with
  | zero => intro t h; omega
  | succ n ih =>
   intro t hlt hb ha
   have h32 := reach_len ((hB.2 t).1 hb)
   have hle : nmO O B t ≤ nmO O D t := by
    unfold nmO
    rw [List.countP_eq_length_filter, List.countP_eq_length_filter]
    have := count_sub (fun _ => true) (P := B.filter fun j => decide (t ∈ kidsO O j)) (B := D.filter fun j => decide (t ∈ kidsO O j)) (hB.1.sublist List.filter_sublist) (fun j hj => by
     obtain ⟨h1, h2⟩ := List.mem_filter.1 hj
     have h3 := of_decide_eq_true h2
     refine List.mem_filter.2 ⟨ih j ?_ h1 (fun h => ha ((hA.2 t).2 (.kid ((hA.2 j).1 h) h3))), h2⟩
     have := hrk j t h3
     have := hM j h1
     omega)
    simpa using this
   have h0 : R.count t = 0 := List.count_eq_zero.2 fun h => ha ((hA.2 t).2 (.start h h32))
   have hc : ofF O R' B t = oneK t r + nmO O B t := by unfold ofF; rw [hR t, h0]; omega
   exact hD.full t ((of_pos hB h32).2 ((hB.2 t).1 hb)) (by omega)
 constructor
 ·intro h
  obtain ⟨i, hi, rfl⟩ := List.getElem_of_mem h
  exact fwd (i + 1) i hi (Nat.lt_succ_self _)
 ·exact fun h => bwd (M - rk t + 1) t (Nat.lt_succ_self _) h.1 h.2
theorem minus_of {O : List Ob} {R R' A B D : List Txt} {r : Txt} (hr : r.length = 32) (hA : AllR O R A) (hB : AllR O R' B) (hR : OneMore R R' r) (hD : DropsO O (ofF O R' B) r D) (hn : NoRing O) (k : Txt) :
  minusF O (ofF O R' B) r D k = ofF O R A k := by
 have hm := drops_mem hr hA hB hR hD hn
 have h := count_two (fun j => decide (k ∈ kidsO O j)) hA.1 hD.nodup hB.1 (fun t ht h => ((hm t).1 h).2 ht) (fun t => by
  rw [hm]
  by_cases e : t ∈ A
  ·simp only [e, not_true, and_false, or_false, iff_true]
   exact (hB.2 t).2 ((hR.reach t).2 (.inl ((hA.2 t).1 e)))
  ·simp [e])
 unfold minusF ofF nmO
 rw [h, hR k]
 omega
structure Ct where
 k : ByteArray
 n : Int
def Ct.t (x : Ct) : Txt := x.k.data.toList
theorem ct_ext {x y : Ct} (h1 : x.t = y.t) (h2 : x.n = y.n) : x = y := by
 cases x; cases y
 obtain rfl := h2
 congr
 exact ByteArray.ext (Array.toList_inj.1 h1)
def FitC (c : List Ct) : Prop := c.Pairwise (fun x y => x.t < y.t) ∧ ∀ x ∈ c, 1 ≤ x.n
def nC : List Ct → Txt → Int
 | [], _ => 0
 | x :: c, t => if x.t = t then x.n else nC c t
theorem nC_mem {c : List Ct} (h : FitC c) {x : Ct} (hx : x ∈ c) : nC c x.t = x.n := by
 induction c with
 | nil => cases hx
 | cons y c ih =>
  obtain ⟨h1, h2⟩ := List.pairwise_cons.1 h.1
  show (if y.t = x.t then y.n else nC c x.t) = _
  rcases List.mem_cons.1 hx with rfl | hx
  ·rw [if_pos rfl]
  ·have := h1 x hx
   rw [if_neg (fun e => by rw [e] at this; exact t_irrefl _ this)]
   exact ih ⟨h2, fun z hz => h.2 z (List.mem_cons_of_mem _ hz)⟩ hx
theorem nC_none {c : List Ct} {t : Txt} (h : ∀ x ∈ c, x.t ≠ t) : nC c t = 0 := by
 induction c with
 | nil => rfl
 | cons y c ih =>
  show (if y.t = t then y.n else nC c t) = _
  rw [if_neg (h y (List.mem_cons_self ..))]
  exact ih fun x hx => h x (List.mem_cons_of_mem _ hx)
theorem nC_some {c : List Ct} {t : Txt} (h : nC c t ≠ 0) : ∃ x ∈ c, x.t = t := by
 refine Classical.byContradiction fun hn => h (nC_none fun x hx e => hn ⟨x, hx, e⟩)
theorem nC_pos {c : List Ct} (h : FitC c) {t : Txt} : 0 ≤ nC c t ∧ (nC c t ≠ 0 ↔ ∃ x ∈ c, x.t = t) := by
 by_cases e : ∃ x ∈ c, x.t = t
 ·obtain ⟨x, hx, rfl⟩ := e
  have := h.2 x hx
  rw [nC_mem h hx]
  exact ⟨by omega, fun _ => ⟨x, hx, rfl⟩, fun _ => by omega⟩
 ·have h0 : nC c t = 0 := nC_none fun x hx e2 => e ⟨x, hx, e2⟩
  rw [h0]
  exact ⟨by omega, fun h => absurd rfl h, fun h => absurd h e⟩
theorem fitC_tail {x : Ct} {c : List Ct} (h : FitC (x :: c)) : FitC c := ⟨(List.pairwise_cons.1 h.1).2, fun y hy => h.2 y (List.mem_cons_of_mem _ hy)⟩
theorem fitC_ext : ∀ {a b : List Ct}, FitC a → FitC b → (∀ t, nC a t = nC b t) → a = b
 | [], [], _, _, _ => rfl
 | [], y :: b, _, hb, h => by
  have h1 := h y.t
  rw [nC_mem hb (List.mem_cons_self ..)] at h1
  have := hb.2 y (List.mem_cons_self ..)
  simp [nC] at h1; omega
 | x :: a, [], ha, _, h => by
  have h1 := h x.t
  rw [nC_mem ha (List.mem_cons_self ..)] at h1
  have := ha.2 x (List.mem_cons_self ..)
  simp [nC] at h1; omega
 | x :: a, y :: b, ha, hb, h => by
  have hx := nC_mem ha (List.mem_cons_self ..)
  have hy := nC_mem hb (List.mem_cons_self ..)
  have px := ha.2 x (List.mem_cons_self ..)
  have py := hb.2 y (List.mem_cons_self ..)
  have hxb : ∃ z ∈ y :: b, z.t = x.t := nC_some (by rw [← h, hx]; omega)
  have hya : ∃ z ∈ x :: a, z.t = y.t := nC_some (by rw [h, hy]; omega)
  have e : x.t = y.t := by
   obtain ⟨z, hz, e1⟩ := hxb
   rcases List.mem_cons.1 hz with rfl | hz
   ·exact e1.symm
   ·have l1 := (List.pairwise_cons.1 hb.1).1 z hz
    obtain ⟨u, hu, e2⟩ := hya
    rcases List.mem_cons.1 hu with rfl | hu
    ·exact e2
    ·have l2 := (List.pairwise_cons.1 ha.1).1 u hu
     rw [e1] at l1; rw [e2] at l2
     exact absurd l2 (t_asymm l1)
  obtain rfl : x = y := ct_ext e (by rw [← hx, ← hy, ← e]; exact h x.t)
  congr 1
  refine fitC_ext (fitC_tail ha) (fitC_tail hb) fun t => ?_
  have ht := h t
  by_cases e2 : x.t = t
  ·have na : nC a t = 0 := nC_none fun z hz e3 => by
    have := (List.pairwise_cons.1 ha.1).1 z hz
    rw [e2, e3] at this; exact t_irrefl _ this
   have nb : nC b t = 0 := nC_none fun z hz e3 => by
    have := (List.pairwise_cons.1 hb.1).1 z hz
    rw [e2, e3] at this; exact t_irrefl _ this
   rw [na, nb]
  ·simpa [nC, e2] using ht
def changeC : List Ct → ByteArray → Int → List Ct
 | [], key, d => [⟨key, d⟩]
 | x :: c, key, d => if key.data.toList < x.t then ⟨key, d⟩ :: x :: c else if x.t = key.data.toList then (if 0 < x.n + d then ⟨x.k, x.n + d⟩ :: c else c) else x :: changeC c key d
theorem changeC_mem {key : ByteArray} {d : Int} {y : Ct} : ∀ {c : List Ct}, y ∈ changeC c key d → y.t = key.data.toList ∨ y ∈ c
 | [], h => by rw [List.mem_singleton.1 h]; exact .inl rfl
 | x :: c, h => by
  unfold changeC at h
  split at h
  ·rcases List.mem_cons.1 h with rfl | h
   ·exact .inl rfl
   ·exact .inr h
  ·split at h
   ·rename_i e
    split at h
    ·rcases List.mem_cons.1 h with rfl | h
     ·exact .inl e
     ·exact .inr (List.mem_cons_of_mem _ h)
    ·exact .inr (List.mem_cons_of_mem _ h)
   ·rcases List.mem_cons.1 h with rfl | h
    ·exact .inr (List.mem_cons_self ..)
    ·exact (changeC_mem h).imp_right (List.mem_cons_of_mem _)
theorem changeC_fit {key : ByteArray} {d : Int} : ∀ {c : List Ct}, FitC c → (nC c key.data.toList = 0 → 1 ≤ d) → FitC (changeC c key d)
 | [], _, h => ⟨by simp [changeC], fun x hx => by rw [List.mem_singleton.1 hx]; exact h rfl⟩
 | x :: c, hc, h => by
  obtain ⟨p1, p2⟩ := List.pairwise_cons.1 hc.1
  unfold changeC
  split
  ·rename_i hl
   have h0 : nC (x :: c) key.data.toList = 0 := nC_none fun y hy e => by
    rcases List.mem_cons.1 hy with rfl | hy
    ·rw [e] at hl; exact t_irrefl _ hl
    ·have := t_trans hl (p1 y hy); rw [e] at this; exact t_irrefl _ this
   refine ⟨List.pairwise_cons.2 ⟨fun y hy => ?_, hc.1⟩, fun y hy => ?_⟩
   ·rcases List.mem_cons.1 hy with rfl | hy
    ·exact hl
    ·exact t_trans hl (p1 y hy)
   ·rcases List.mem_cons.1 hy with rfl | hy
    ·exact h h0
    ·exact hc.2 y hy
  ·split
   ·rename_i e
    split
    ·rename_i hp
     refine ⟨List.pairwise_cons.2 ⟨fun y hy => p1 y hy, p2⟩, fun y hy => ?_⟩
     rcases List.mem_cons.1 hy with rfl | hy
     ·exact hp
     ·exact hc.2 y (List.mem_cons_of_mem _ hy)
    ·exact fitC_tail hc
   ·rename_i hl hne
    have hn : nC (x :: c) key.data.toList = nC c key.data.toList := if_neg hne
    have ih := changeC_fit (key := key) (d := d) (fitC_tail hc) (by rw [← hn]; exact h)
    refine ⟨List.pairwise_cons.2 ⟨fun y hy => ?_, ih.1⟩, fun y hy => ?_⟩
    ·rcases changeC_mem hy with e | hy
     ·rw [e]
      exact Classical.byContradiction fun h1 => hne (t_tri _ _ h1 hl)
     ·exact p1 y hy
    ·rcases List.mem_cons.1 hy with rfl | hy
     ·exact hc.2 _ (List.mem_cons_self ..)
     ·exact ih.2 y hy
theorem changeC_n {key : ByteArray} {d : Int} {t : Txt} : ∀ {c : List Ct}, FitC c → 0 ≤ nC c key.data.toList + d → nC (changeC c key d) t = if t = key.data.toList then nC c key.data.toList + d else nC c t
 | [], _, h => by
  show (if key.data.toList = t then d else 0) = _
  by_cases e : t = key.data.toList
  ·rw [if_pos e.symm, if_pos e]; simp [nC]
  ·rw [if_neg (fun h => e h.symm), if_neg e]; rfl
 | x :: c, hc, h => by
  obtain ⟨p1, p2⟩ := List.pairwise_cons.1 hc.1
  unfold changeC
  split
  ·rename_i hl
   have h0 : nC (x :: c) key.data.toList = 0 := nC_none fun y hy e => by
    rcases List.mem_cons.1 hy with rfl | hy
    ·rw [e] at hl; exact t_irrefl _ hl
    ·have := t_trans hl (p1 y hy); rw [e] at this; exact t_irrefl _ this
   show (if key.data.toList = t then d else nC (x :: c) t) = _
   by_cases e : t = key.data.toList
   ·rw [if_pos e.symm, if_pos e, h0]; omega
   ·rw [if_neg (fun h => e h.symm), if_neg e]
  ·split
   ·rename_i e
    have hk : nC (x :: c) key.data.toList = x.n := if_pos e
    rw [hk] at h ⊢
    by_cases et : t = key.data.toList
    ·rw [if_pos et]
     split
     ·show (if x.t = t then x.n + d else nC c t) = _
      rw [if_pos (by rw [e, et])]
     ·rw [nC_none fun y hy e2 => ?_]
      ·omega
      ·have := p1 y hy; rw [e2, et, e] at this; exact t_irrefl _ this
    ·rw [if_neg et]
     have hx : x.t ≠ t := fun h => et (by rw [← h, e])
     split
     ·show (if x.t = t then x.n + d else nC c t) = (if x.t = t then x.n else nC c t)
      rw [if_neg hx, if_neg hx]
     ·show nC c t = (if x.t = t then x.n else nC c t)
      rw [if_neg hx]
   ·rename_i hl hne
    have hn : nC (x :: c) key.data.toList = nC c key.data.toList := if_neg hne
    rw [hn] at h ⊢
    show (if x.t = t then x.n else nC (changeC c key d) t) = _
    rw [changeC_n (fitC_tail hc) h]
    by_cases et : t = key.data.toList
    ·rw [if_neg (fun h => hne (by rw [h, et])), if_pos et, if_pos et]
    ·rw [if_neg et, if_neg et]; rfl
noncomputable def listC (f : Txt → Nat) (A : List Txt) : List Ct := A.map fun t => ⟨⟨t.toArray⟩, f t⟩
theorem listC_fit {f : Txt → Nat} {A : List Txt} (hA : Rises A) (h : ∀ t ∈ A, 1 ≤ f t) : FitC (listC f A) :=
 ⟨List.pairwise_map.2 (List.Pairwise.imp (fun h => h) hA), fun x hx => by
  obtain ⟨t, ht, rfl⟩ := List.mem_map.1 hx
  have := h t ht
  show (1 : Int) ≤ f t
  omega⟩
theorem listC_n {f : Txt → Nat} {A : List Txt} {t : Txt} : nC (listC f A) t = if t ∈ A then (f t : Int) else 0 := by
 induction A with
 | nil => rfl
 | cons x A ih =>
  show (if x = t then (f x : Int) else nC (listC f A) t) = _
  by_cases e : x = t
  ·rw [if_pos e, e, if_pos (List.mem_cons_self ..)]
  ·rw [if_neg e, ih]
   by_cases h : t ∈ A
   ·rw [if_pos h, if_pos (List.mem_cons_of_mem _ h)]
   ·rw [if_neg h, if_neg (fun h2 => by rcases List.mem_cons.1 h2 with h3 | h3; exact e h3.symm; exact h h3)]
end Go.Proofs.YtokknppjeckppaaGreatDoor
set_option linter.unusedVariables false
namespace Go.Proofs.YtokknppjeckppaaGreatDoor
open Go.RowKit
def zeroCt : Ct := ⟨⟨#[]⟩, 0⟩
abbrev ctC (x : Ct) : List Value := [.string x.k, .int .i64 x.n]
abbrev ctV (x : Ct) : Value := .agg #[.string x.k, .int .i64 x.n]
def ctCells (L : List Ct) : List Value := L.flatMap ctC
def CtAt (w : World) (b o : Nat) (x : Ct) : Prop :=
 w.cell? ⟨b, o, none⟩ = some (.string x.k) ∧ w.cell? ⟨b, o + 1, none⟩ = some (.int .i64 x.n)
def IsCts (w : World) (v : Value) (L : List Ct) : Prop :=
 L.length ≤ maxLen ∧ ∃ (a : Option Addr) (cap : Nat), v = .slice a L.length cap ∧ ((a = none → L = [] ∧ cap = 0) ∧ L.length ≤ cap) ∧ (0 < L.length → ∃ b off, a = some ⟨b, off, none⟩ ∧ b < w.heap.size ∧ ∀ i (h : i < L.length), CtAt w b (off + i * 2) L[i])
theorem infoCount : (Tryz.prog.info? 58).map (fun i => (i.zero, i.size, i.bytes)) = some (some (ctV zeroCt), 2, 24) := by kernel_rfl
theorem ctCells_len (L : List Ct) : (ctCells L).length = L.length * 2 := by
 induction L with
 | nil => rfl
 | cons x L ih => show (ctC x ++ ctCells L).length = _; rw [List.length_append, ih, List.length_cons]; simp; omega
theorem ctCells_app (L M : List Ct) : ctCells (L ++ M) = ctCells L ++ ctCells M := List.flatMap_append
theorem ctCells_get {L : List Ct} {i j : Nat} (h : i < L.length) (hj : j < 2) : (ctCells L)[i * 2 + j]? = (ctC L[i])[j]? := by
 induction L generalizing i with
 | nil => simp at h
 | cons x L ih =>
  show (ctC x ++ ctCells L)[i * 2 + j]? = _
  cases i with
  | zero => rw [List.getElem?_append_left (by simp; omega)]; simp
  | succ i =>
   rw [List.getElem?_append_right (by simp; omega), show (i + 1) * 2 + j - (ctC x).length = i * 2 + j by simp; omega, ih (by simpa using h)]
   rfl
theorem ctCells_one {u : Value} {L : List Ct} (h : u ∈ ctCells L) : u.oneCell' = true := by
 obtain ⟨x, _, hx⟩ := List.mem_flatMap.1 h
 simp at hx
 rcases hx with rfl | rfl <;> rfl
theorem cts_nil (w : World) : IsCts w (.slice none 0 0) [] := ⟨Nat.zero_le _, none, 0, rfl, ⟨fun _ => ⟨rfl, rfl⟩, Nat.le_refl _⟩, fun h => absurd h (by simp)⟩
theorem CtAt.stays {w w' : World} {b o : Nat} {x : Ct} (h : CtAt w b o x) (hlt : b < w.heap.size) (hb : Below w.heap.size w w') : CtAt w' b o x :=
 ⟨(hb.cell (p := ⟨b, _, none⟩) hlt).trans h.1, (hb.cell (p := ⟨b, _, none⟩) hlt).trans h.2⟩
theorem IsCts.stays {w w' : World} {v : Value} {L : List Ct} (h : IsCts w v L) (hb : Below w.heap.size w w') : IsCts w' v L := by
 obtain ⟨h0, a, cap, h1, h2, h3⟩ := h
 refine ⟨h0, a, cap, h1, h2, fun hL => ?_⟩
 obtain ⟨b, off, e, hlt, hc⟩ := h3 hL
 exact ⟨b, off, e, Nat.lt_of_lt_of_le hlt hb.size, fun i hi => (hc i hi).stays hlt hb⟩
def OwnC (B : Nat) (w : World) (v : Value) (L : List Ct) : Prop := w.ownsRow B 58 2 v L.length (ctCells L)
theorem cts_own_nil (B : Nat) (w : World) : OwnC B w (.slice none 0 0) [] := World.ownsRow_nil _ _ _ _
theorem OwnC.is {B : Nat} {w : World} {v : Value} {L : List Ct} (h : OwnC B w v L) : IsCts w v L := by
 have hlt := h.lt
 have hc := fun g hg => h.cells (g := g) hg
 rcases h.2 with ⟨rfl, h0⟩ | ⟨g, cap, cur, rfl, hb, hg, hle, hm, _⟩
 ·obtain rfl := List.length_eq_zero_iff.1 h0
  exact cts_nil w
 ·refine ⟨Nat.le_trans hle hm, some ⟨g, 0, none⟩, cap, rfl, ⟨fun h => (by cases h), hle⟩, fun _ => ⟨g, 0, rfl, (hlt g rfl).2, fun i hi => ?_⟩⟩
  have hh := fun j (hj : j < 2) u (hu : (ctC L[i])[j]? = some u) => hc g rfl (i * 2 + j) u (by rw [ctCells_get hi hj]; exact hu)
  refine ⟨?_, ?_⟩
  ·have := hh 0 (by decide) _ rfl; rw [add_plain'] at this; exact this
  ·have := hh 1 (by decide) _ rfl; rw [add_plain'] at this; exact this
theorem OwnC.stays {B : Nat} {w w' : World} {v : Value} {L : List Ct} (h : OwnC B w v L) (hb : Below w.heap.size w w') : OwnC B w' v L :=
 World.ownsRow.kept h (grownBy_of_below hb) (by cases hv : v.ownBlock <;> simp)
theorem OwnC.turned {B b : Nat} {w w' : World} {v : Value} {L : List Ct} (h : OwnC B w v L) (hb : w.grownBy w' (some b)) (hlt : b < B) : OwnC B w' v L :=
 World.ownsRow.kept h hb (by
  cases hv : v.ownBlock with
  | none => exact .inl rfl
  | some k =>
   refine .inr fun e => ?_
   have := (h.lt k hv).1
   cases e; omega)
theorem cts_cell {w : World} {y : Ct} {t : TypeId} : ∀ j u, (ctC y)[j]? = some u → (w.alloc (.cells #[.string y.k, .int .i64 y.n] t)).cell? ((⟨w.heap.size, 0, none⟩ : Addr).add j) = some u := by
 intro j u hj
 match j, hj with
 | 0, hj => simp at hj; subst hj; simp [Addr.add]
 | 1, hj => simp at hj; subst hj; simp [Addr.add]
theorem wpList_append_cts {ops : Array Oper} {rest : List Oper} {o : Oper} {a : Act} {B : Nat} {w0 : World} {Q : Exit → Act → World → Prop} (hgd : o.guard = none) (s x : Operand)
  (ho : o.op = .call { callee := .builtin .append, args := #[s, x], argTypes := #[26, 26] })
  {v : Value} {M : List Ct} {y : Ct} (hown : OwnC B w0 v M) (hBs : B ≤ w0.heap.size) (hs : a.eval s = v)
  (hx : a.eval x = .slice (some ⟨w0.heap.size, 0, none⟩) 1 1) (hlen : M.length ≤ 1000000)
  (h : ∀ v' w', OwnC B w' v' (M ++ [y]) → w0.grownBy w' v.ownBlock → wpList Tryz.prog ops Q rest (a.put o.dst v') w') :
  wpList Tryz.prog ops Q (o :: rest) a (w0.alloc (.cells #[.string y.k, .int .i64 y.n] 58)) := by
 obtain ⟨i0, hi, hz0, hz1, hz2⟩ := info_parts infoCount
 refine wpList_append_own _ hgd s x 26 ho B 58 i0 (ctV zeroCt) 2 24 Tryz.underlying26 hi hz0 hz1 hz2 rfl (by decide) v M.length (ctCells M) hs (World.ownsRow.alloc hown _) ⟨w0.heap.size, 0, none⟩ 1 1 (ctC y) hx rfl cts_cell ?_ ?_ ?_ ?_ ?_
 ·intro u hu; simp at hu; rcases hu with rfl | rfl <;> rfl
 ·unfold maxLen; omega
 ·omega
 ·simp; omega
 ·intro v' w' hown' hg _
  refine h v' w' ?_ (grown_after (grownBy_alloc w0 _) hg)
  unfold OwnC
  rw [List.length_append, ctCells_app]
  have : ctCells [y] = ctC y := List.append_nil _
  rw [this]; exact hown'
def CtBox (w : World) (b : Nat) (x : Ct) : Prop := (w.cell? ⟨b, 0, none⟩ = some (.string x.k) ∧ w.cell? ⟨b, 1, none⟩ = some (.int .i64 x.n)) ∧ b < w.heap.size
theorem CtBox.cells {w : World} {b : Nat} {x : Ct} (h : CtBox w b x) : w.cell? ⟨b, 0, none⟩ = some (.string x.k) ∧ w.cell? ⟨b, 1, none⟩ = some (.int .i64 x.n) := h.1
theorem CtBox.stays {w w' : World} {b : Nat} {x : Ct} (h : CtBox w b x) (hb : Below w.heap.size w w') : CtBox w' b x :=
 ⟨⟨(hb.cell (p := ⟨b, 0, none⟩) h.2).trans h.1.1, (hb.cell (p := ⟨b, 1, none⟩) h.2).trans h.1.2⟩, Nat.lt_of_lt_of_le h.2 hb.size⟩
theorem ctBox_new (w : World) (x : Ct) (t : TypeId) : CtBox (w.alloc (.cells #[.string x.k, .int .i64 x.n] t)) w.heap.size x := ⟨⟨by simp, by simp⟩, by simp⟩
theorem OwnC.low {B B' : Nat} {w : World} {v : Value} {L : List Ct} (h : OwnC B w v L) (hb : B' ≤ B) : OwnC B' w v L := by
 refine ⟨h.1, ?_⟩
 rcases h.2 with h2 | ⟨g, cap, cur, h3, h4, h5⟩
 ·exact .inl h2
 ·exact .inr ⟨g, cap, cur, h3, Nat.le_trans hb h4, h5⟩
theorem OwnC.apart {B : Nat} {w : World} {v : Value} {L : List Ct} (h : OwnC B w v L) {A : Nat} {xs : Array Value} {T : TypeId} (hA : Row w A xs T) (hT : T ≠ 58) : v.ownBlock ≠ some A := fun e => by
 rcases h.2 with ⟨rfl, _⟩ | ⟨g, cap, cur, rfl, _, hg, _⟩
 ·cases e
 ·cases e
  rw [show w.heap[g]? = _ from hA] at hg
  cases hg; exact hT rfl
def AnyC (W0 : World) (v0 : Value) (L0 : List Ct) (w : World) (v : Value) (L : List Ct) : Prop := Below W0.heap.size W0 w ∧ IsCts W0 v0 L0 ∧ (v = v0 ∧ L = L0 ∨ OwnC W0.heap.size w v L)
theorem AnyC.is {W0 w : World} {v0 v : Value} {L0 L : List Ct} (h : AnyC W0 v0 L0 w v L) : IsCts w v L := by
 obtain ⟨h1, h2, ⟨rfl, rfl⟩ | h3⟩ := h
 ·exact h2.stays h1
 ·exact h3.is
theorem AnyC.of {w : World} {v : Value} {L : List Ct} (h : IsCts w v L) : AnyC w v L w v L := ⟨Below.refl _ _, h, .inl ⟨rfl, rfl⟩⟩
theorem AnyC.stays {W0 w w' : World} {v0 v : Value} {L0 L : List Ct} (h : AnyC W0 v0 L0 w v L) (hb : Below w.heap.size w w') : AnyC W0 v0 L0 w' v L :=
 ⟨below_step h.1 hb, h.2.1, h.2.2.imp id fun h2 => h2.stays hb⟩
theorem AnyC.turn {W0 w w' : World} {v0 v : Value} {L0 L : List Ct} {row : Option Nat} (h : AnyC W0 v0 L0 w v L) (hg : w.grownBy w' row) (hr : ∀ g, row = some g → W0.heap.size ≤ g ∧ ∃ xs T, Row w g xs T ∧ T ≠ 58) : AnyC W0 v0 L0 w' v L :=
 ⟨h.1.grown hg h.1.size (fun g e => (hr g e).1), h.2.1, h.2.2.imp id fun (h2 : OwnC W0.heap.size w v L) => World.ownsRow.kept h2 hg (by
  cases hv : v.ownBlock with
  | none => exact .inl rfl
  | some k =>
   refine .inr fun e => ?_
   obtain ⟨_, xs, T, h3, h4⟩ := hr k e.symm
   exact OwnC.apart h2 h3 h4 hv)⟩
theorem AnyC.next {W0 w w' : World} {v0 v v' : Value} {L0 L L' : List Ct} (h : AnyC W0 v0 L0 w v L) (hb : Below w.heap.size w w') (hv : v' = v ∧ L' = L ∨ OwnC w.heap.size w' v' L') : AnyC W0 v0 L0 w' v' L' := by
 rcases hv with ⟨rfl, rfl⟩ | hv
 ·exact h.stays hb
 ·exact ⟨below_step h.1 hb, h.2.1, .inr (hv.low h.1.size)⟩
end Go.Proofs.YtokknppjeckppaaGreatDoor
set_option linter.unusedVariables false
namespace Go.Proofs.YtokknppjeckppaaGreatDoor
open Go.RowKit Go.Sort
attribute [local go_sem] Oper.semAt_some
def ordB (x y : List UInt8) : Int := if x < y then -1 else if y < x then 1 else 0
theorem compare_ordB : ∀ a b : List UInt8, Lib.compareBytes a b = ordB a b
 | [], [] => rfl
 | [], _ :: _ => by unfold ordB Lib.compareBytes; rw [if_pos (List.nil_lt_cons _ _)]
 | _ :: _, [] => by unfold ordB Lib.compareBytes; rw [if_neg (List.not_lt_nil _), if_pos (List.nil_lt_cons _ _)]
 | a :: l, b :: m => by
  have ih := compare_ordB l m
  unfold Lib.compareBytes
  rw [ih]
  unfold ordB
  simp only [List.cons_lt_cons_iff]
  by_cases h : a < b
  ·rw [if_pos h, if_pos (.inl h)]
  ·by_cases h2 : b < a
   ·have hne : a ≠ b := fun e => by subst e; exact h h2
    rw [if_neg h, if_pos h2, if_neg (by rintro (x | x); exact h x; exact hne x.1), if_pos (.inl h2)]
   ·obtain rfl : a = b := by
     have h3 := UInt8.not_lt.1 h; have h4 := UInt8.not_lt.1 h2
     exact UInt8.le_antisymm h4 h3
    rw [if_neg h, if_neg h2]
    simp [h]
theorem ordB_lt {x y : List UInt8} (h : x < y) : ordB x y = -1 := if_pos h
theorem ordB_neg (x y : List UInt8) : decide (ordB x y < 0) = decide (x < y) := by
 unfold ordB
 by_cases h : x < y
 ·simp [h]
 ·rw [if_neg h]
  by_cases h2 : y < x
  ·simp [h, h2]
  ·simp [h, h2]
set_option maxRecDepth 100000 in
theorem CompareString_any (a b : ByteArray) (w : World) :
  Calls Tryz.prog 149 #[.string a, .string b] w fun e w' => e = .returned (.int .i64 (ordB a.data.toList b.data.toList)) ∧ w = w' := by
 rw [← compare_ordB]
 go_enter Tryz.func149, Tryz.ntmps149
 go_wp2
 rw [run_callFunc_extern Tryz.func162 (by kernel_rfl) (by kernel_rfl) (by kernel_rfl) (e := Extern.BytealgCompare.compare) (by kernel_rfl), Lib.run_compareString]
 simp only [Result.andThen]
 rw [Oper.upon_value]
 go_wp2
 go_ret
 exact ⟨rfl, rfl⟩
set_option maxRecDepth 100000 in
theorem strCompare_any (a b : ByteArray) (w : World) :
  Calls Tryz.prog 128 #[.string a, .string b] w fun e w' => e = .returned (.int .i64 (ordB a.data.toList b.data.toList)) ∧ w = w' := by
 have C := Lib.hid (CompareString_any a b)
 go_enter Tryz.func128, Tryz.ntmps128
 go_wp2_with fail
 with_reducible refine (C.out _).mono ?_
 rintro e w1 ⟨rfl, rfl⟩
 go_wp2
 go_ret
 exact ⟨rfl, rfl⟩
theorem place1_any (x : Ob) (s : ByteArray) (w : World) :
  Calls Tryz.prog 127 #[obV x, .string s] w fun e w' => e = .returned (.int .i64 (ordB x.t s.data.toList)) ∧ Below w.heap.size w w' := by
 have C := Lib.hid (strCompare_any x.k s)
 rw [show x.k.data.toList = x.t from rfl] at C
 have hb0 := (Below.refl w.heap.size w).alloc (Nat.le_refl _) (.cells #[.string x.k, .string x.r] 61)
 go_enter Tryz.func127, Tryz.ntmps127
 go_wp2_with fail
 refine (C.out _).mono ?_
 rintro e w1 ⟨rfl, rfl⟩
 go_wp2
 go_ret
 exact ⟨rfl, hb0⟩
def cntO (L : List Ob) (t : List UInt8) : Nat := (L.takeWhile fun y => decide (y.t < t)).length
theorem cntO_le (L : List Ob) (t : List UInt8) : cntO L t ≤ L.length := by
 unfold cntO
 exact (List.takeWhile_sublist _).length_le
theorem cntO_cons (x : Ob) (L : List Ob) (t : List UInt8) : cntO (x :: L) t = if x.t < t then cntO L t + 1 else 0 := by
 unfold cntO
 by_cases h : x.t < t
 ·simp [h]
 ·simp [h]
theorem cntO_at : ∀ {L : List Ob}, RiseO L → ∀ (t : List UInt8) (i : Nat) (h : i < L.length), L[i].t < t ↔ i < cntO L t
 | [], _, _, i, h => absurd h (by simp)
 | x :: L, hr, t, i, h => by
  obtain ⟨h1, h2⟩ := List.pairwise_cons.1 hr
  rw [cntO_cons]
  cases i with
  | zero =>
   by_cases hx : x.t < t
   ·simp [hx]
   ·simp [hx]
  | succ i =>
   have hi : i < L.length := by simpa using h
   have ih := cntO_at h2 t i hi
   show L[i].t < t ↔ _
   by_cases hx : x.t < t
   ·rw [if_pos hx, ih]; omega
   ·rw [if_neg hx]
    exact ⟨fun e => absurd (l_trans (h1 _ (List.getElem_mem hi)) e) hx, fun e => absurd e (by omega)⟩
theorem getO_at {L : List Ob} (hr : RiseO L) (t : List UInt8) : (∃ h : cntO L t < L.length, L[cntO L t].t = t ∧ getO L t = some L[cntO L t]) ∨ (getO L t = none ∧ ∀ h : cntO L t < L.length, L[cntO L t].t ≠ t ∧ ¬ L[cntO L t].t < t) := by
 by_cases h : cntO L t < L.length
 ·have h1 : ¬ L[cntO L t].t < t := fun e => by have := (cntO_at hr t _ h).1 e; omega
  by_cases h2 : L[cntO L t].t = t
  ·exact .inl ⟨h, h2, (getO_some hr).2 ⟨List.getElem_mem h, h2⟩⟩
  ·refine .inr ⟨getO_none.2 fun x hx e => ?_, fun _ => ⟨h2, h1⟩⟩
   obtain ⟨i, hi, ex⟩ := List.getElem_of_mem hx
   subst ex
   rcases Nat.lt_trichotomy i (cntO L t) with c | c | c
   ·have := (cntO_at hr t i hi).2 c
    rw [e] at this; exact l_irrefl _ this
   ·subst c; exact h2 e
   ·have := List.pairwise_iff_getElem.1 hr _ _ h hi c
    rw [e] at this; exact h1 this
 ·refine .inr ⟨getO_none.2 fun x hx e => ?_, fun h' => absurd h' h⟩
  obtain ⟨i, hi, ex⟩ := List.getElem_of_mem hx
  subst ex
  have := (cntO_at hr t i hi).2 (by omega)
  rw [e] at this; exact l_irrefl _ this
set_option maxRecDepth 100000 in
set_option maxHeartbeats 4000000 in
theorem oSearch_any (v : Value) (L : List Ob) (s : ByteArray) (w : World) (h : IsObs w v L) (hr : RiseO L) (h70 : L.length ≤ 1000000) :
  Calls Tryz.prog 126 #[v, .string s, .func (.func 127) #[] #[]] w fun e w' => e = .returned (.tuple #[.int .i64 (cntO L s.data.toList), .bool (getO L s.data.toList).isSome]) ∧ Below w.heap.size w w' := by
 have HI := Lib.hid h
 have P := Lib.hid (fun x w => place1_any x s w)
 obtain ⟨hm, a, cap, rfl, _, hc⟩ := h
 clear hc
 obtain ⟨t, ht⟩ : ∃ t, t = s.data.toList := ⟨_, rfl⟩
 rw [← ht] at P ⊢
 clear ht hm
 have HAT := Lib.hid (fun i (hi : i < L.length) => cntO_at hr t i hi)
 have HF := Lib.hid (getO_at hr t)
 have hcl := cntO_le L t
 obtain ⟨n, hn⟩ : ∃ n, n = cntO L t := ⟨_, rfl⟩
 rw [← hn] at hcl HAT ⊢
 have HF2 : Hid ((∃ h : n < L.length, L[n].t = t ∧ getO L t = some L[n]) ∨ (getO L t = none ∧ ∀ h : n < L.length, L[n].t ≠ t ∧ ¬ L[n].t < t)) := Lib.hid (by subst hn; exact HF.out)
 clear hn HF hr
 go_enter Tryz.func126, Tryz.ntmps126
 go_wp2
 go_loopw [9, 10] (fun i j wr => ∃ lo hi : Nat, i = .int .i64 lo ∧ j = .int .i64 hi ∧ lo ≤ n ∧ n ≤ hi ∧ hi ≤ L.length ∧ Below w.heap.size w wr) (fun i j _ => (intOf j).toNat - (intOf i).toNat)
 case atStart => exact ⟨0, L.length, rfl, rfl, Nat.zero_le _, hcl, Nat.le_refl _, Below.refl _ _⟩
 case round =>
  obtain ⟨lo, hi, rfl, rfl, hlo, hhi, hL, hB⟩ := hrel
  by_cases hlt : lo < hi
  ·have hmid : (lo + hi) / 2 < L.length := by omega
   obtain ⟨_, _, _, e, _, hc⟩ := HI.out.stays hB
   cases e
   obtain ⟨b, off, rfl, _, g⟩ := hc (by omega)
   obtain ⟨c0, c1⟩ := g ((lo + hi) / 2) hmid
   clear g hc
   have hat := HAT.out _ hmid
   obtain ⟨x, hx⟩ : ∃ x, x = L[(lo + hi) / 2] := ⟨_, rfl⟩
   rw [← hx] at c0 c1 hat
   clear hx
   have P1 := Lib.hid (P.out x)
   by_cases ho : x.t < t
   ·have hm := hat.1 ho
    rw [ordB_lt ho] at P1
    clear ho hat
    go_wp2_with fail
    refine (P1.out _).mono ?_
    rintro e w1 ⟨rfl, hb⟩
    have hB1 := below_step hB hb
    clear hb
    go_wp2
    go_roundw
    case rel => exact ⟨(lo + hi) / 2 + 1, hi, by go_num, rfl, by omega, hhi, hL, hB1⟩
    case measure => simp [intOf]; omega
   ·have hm : n ≤ (lo + hi) / 2 := by
     rcases Nat.lt_or_ge ((lo + hi) / 2) n with e | e
     ·exact absurd (hat.2 e) ho
     ·exact e
    obtain ⟨o, hoo⟩ : ∃ o, o = ordB x.t t := ⟨_, rfl⟩
    have h0 : decide (o < 0) = false := by rw [hoo, ordB_neg]; exact decide_eq_false ho
    rw [← hoo] at P1
    clear ho hat hoo
    go_wp2_with fail
    refine (P1.out _).mono ?_
    rintro e w1 ⟨rfl, hb⟩
    have hB1 := below_step hB hb
    clear hb
    go_wp2
    go_roundw
    case rel => exact ⟨lo, (lo + hi) / 2, rfl, by go_num, hlo, hm, by omega, hB1⟩
    case measure => simp [intOf]; omega
  ·obtain rfl : lo = n := by omega
   have hnlh : ¬ lo < hi := hlt
   clear hlt hlo hhi
   by_cases hlt : lo < L.length
   ·have hbk : decide ((lo : Int) < (L.length : Int)) = true := decide_eq_true (by omega)
    obtain ⟨_, _, _, e, _, hc⟩ := HI.out.stays hB
    cases e
    obtain ⟨b, off, rfl, _, g⟩ := hc (by omega)
    obtain ⟨c0, c1⟩ := g lo hlt
    clear g hc
    have hF := HF2.out
    obtain ⟨x, hx⟩ : ∃ x, x = L[lo] := ⟨_, rfl⟩
    have hF' : (x.t = t ∧ getO L t = some x) ∨ (getO L t = none ∧ x.t ≠ t) := by
     rcases hF with ⟨h, h1, h2⟩ | ⟨h1, h2⟩
     ·exact .inl ⟨by rw [hx]; exact h1, by rw [hx]; exact h2⟩
     ·exact .inr ⟨h1, by rw [hx]; exact (h2 hlt).1⟩
    rw [← hx] at c0 c1
    clear hx hF
    have P1 := Lib.hid (P.out x)
    rcases hF' with ⟨h1, h2⟩ | ⟨h1, h2⟩
    ·have HV : Hid ((getO L t).isSome = true) := Lib.hid (by rw [h2]; rfl)
     rw [show ordB x.t t = 0 by rw [h1]; unfold ordB; simp [l_irrefl]] at P1
     clear h1 h2
     go_wp2_with fail
     refine (P1.out _).mono ?_
     rintro e w1 ⟨rfl, hb⟩
     have hB1 := below_step hB hb
     clear hb
     go_wp2
     go_ret2
     exact ⟨by rw [HV.out]; rfl, hB1⟩
    ·have HV : Hid ((getO L t).isSome = false) := Lib.hid (by rw [h1]; rfl)
     obtain ⟨o, hoo⟩ : ∃ o, o = ordB x.t t := ⟨_, rfl⟩
     have ho : (o == 0) = false := beq_eq_false_iff_ne.2 (by
      rw [hoo]; unfold ordB
      by_cases c : x.t < t
      ·rw [if_pos c]; decide
      ·rw [if_neg c]
       by_cases c2 : t < x.t
       ·rw [if_pos c2]; decide
       ·exact absurd (l_tri _ _ c c2) h2)
     rw [← hoo] at P1
     clear h1 h2 hoo
     go_wp2_with fail
     refine (P1.out _).mono ?_
     rintro e w1 ⟨rfl, hb⟩
     have hB1 := below_step hB hb
     clear hb
     go_wp2
     go_ret2
     exact ⟨by rw [HV.out]; rfl, hB1⟩
   ·have hbk : decide ((lo : Int) < (L.length : Int)) = false := decide_eq_false (by omega)
    have HV : Hid ((getO L t).isSome = false) := Lib.hid (by
     rcases HF2.out with ⟨h, _⟩ | ⟨h1, _⟩
     ·exact absurd h hlt
     ·rw [h1]; rfl)
    go_wp2
    go_ret2
    exact ⟨by rw [HV.out]; rfl, hB⟩
theorem oPlace_any (v : Value) (L : List Ob) (s : ByteArray) (w : World) (h : IsObs w v L) (hr : RiseO L) (h70 : L.length ≤ 1000000) :
  Calls Tryz.prog 106 #[v, .string s] w fun e w' => e = .returned (.tuple #[.int .i64 (cntO L s.data.toList), .bool (getO L s.data.toList).isSome]) ∧ Below w.heap.size w w' := by
 have C := Lib.hid (oSearch_any v L s w h hr h70)
 go_enter Tryz.func106, Tryz.ntmps106
 go_wp2_with fail
 refine C.out.mono ?_
 rintro e w1 ⟨rfl, hb⟩
 go_wp2
 go_ret2
 exact ⟨rfl, hb⟩
set_option maxRecDepth 100000 in
set_option maxHeartbeats 2000000 in
theorem pGet_any (v : Value) (L : List Ob) (s : ByteArray) (w : World) (h : IsObs w v L) (hr : RiseO L) (h70 : L.length ≤ 1000000) :
  Calls Tryz.prog 95 #[v, .string s] w fun e w' => e = .returned (.tuple #[.string (gotO L s.data.toList), .bool (getO L s.data.toList).isSome]) ∧ Below w.heap.size w w' := by
 have C := Lib.hid (oPlace_any v L s w h hr h70)
 have HI := Lib.hid h
 have hF := getO_at hr s.data.toList
 obtain ⟨hm, a, cap, rfl, _, hc⟩ := h
 have hmm : L.length ≤ 9223372036854775807 := by unfold maxLen at hm; omega
 clear hc hr hm
 obtain ⟨t, ht⟩ : ∃ t, t = s.data.toList := ⟨_, rfl⟩
 rw [← ht] at C hF ⊢
 clear ht
 rcases hF with ⟨hlt, h1, h2⟩ | ⟨h1, h2⟩
 ·have HV : Hid ((getO L t).isSome = true) := Lib.hid (by rw [h2]; rfl)
  have HG := Lib.hid (gotO_some h2)
  rw [HV.out] at C
  obtain ⟨n, hn⟩ : ∃ n, n = cntO L t := ⟨_, rfl⟩
  obtain ⟨x, hx⟩ : ∃ x, x = L[cntO L t] := ⟨_, rfl⟩
  have HXX : Hid (∀ h : n < L.length, L[n] = x) := Lib.hid (fun h => by rw [hx]; congr 1)
  rw [← hx] at HG
  rw [← hn] at C hlt
  clear hn hx h1 h2
  go_enter Tryz.func95, Tryz.ntmps95
  go_wp2_with fail
  refine C.out.mono ?_
  rintro e w1 ⟨rfl, hb⟩
  obtain ⟨_, _, _, e, _, hc⟩ := HI.out.stays hb
  cases e
  obtain ⟨b, off, rfl, _, g⟩ := hc (by omega)
  obtain ⟨c0, c1⟩ := g n hlt
  rw [HXX.out hlt] at c0 c1
  clear g hc
  have hnl : (n : Int) < (L.length : Int) := by omega
  go_wp2
  go_ret2
  exact ⟨by rw [HG.out, HV.out]; rfl, hb⟩
 ·have HV : Hid ((getO L t).isSome = false) := Lib.hid (by rw [h1]; rfl)
  have HG := Lib.hid (gotO_none h1)
  rw [HV.out] at C
  obtain ⟨n, hn⟩ : ∃ n, n = cntO L t := ⟨_, rfl⟩
  rw [← hn] at C
  clear hn h1 h2
  go_enter Tryz.func95, Tryz.ntmps95
  go_wp2_with fail
  refine C.out.mono ?_
  rintro e w1 ⟨rfl, hb⟩
  go_wp2
  go_ret2
  exact ⟨by rw [HG.out, HV.out]; rfl, hb⟩
end Go.Proofs.YtokknppjeckppaaGreatDoor

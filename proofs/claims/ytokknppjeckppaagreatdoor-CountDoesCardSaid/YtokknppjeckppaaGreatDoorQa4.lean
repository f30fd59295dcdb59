/-
  Texts put together: contracts and laws that this seat's proofs share.
-/
import Derived.Test.YtokknppjeckppaaGreatDoorQa3
import Derived.Test.YtokknppjeckppaaGreatDoorQa2
import Derived.Test.YtokknppjeckppaaGreatDoorQa0
import Derived.IntWalk
import Derived.Test.YtokknppjeckppaaGreatDoorQa1
import Derived.Maps.AppendAt
import Derived.Shelf.Spec.SearchS
import Derived.Shelf.Sort.Plain
import Derived.Shelf.Slices.CompactS
import Derived.Shelf.Slices.In.SortNone
import Derived.Sort.OwnSorted
import Derived.Lib.OwnBridge
import Derived.Shelf.Strings.Count
import Derived.Lib.SplitLaws
import Derived.Shelf.Strings.Builder2
import Derived.Deep.QuietTactic
import Derived.BigQuiet
import Derived.WalkSmall
import Derived.Lib.Hide
import Derived.StillTailTactics
import Derived.Maps.OwnSet
import Derived.StringKeys
import Derived.RangeFuncFrom
import Derived.RangeFuncBox
import Derived.RegionTactic
import Derived.BigRegionIn
import Derived.Sort.CutIn
import Derived.OwnWalkIn
import Derived.OrdersIn
import Derived.TacticsIn
import Derived.RangeFuncCalls
set_option linter.unusedVariables false
namespace Go.Proofs.YtokknppjeckppaaGreatDoor
open Go.RowKit
attribute [local go_sem] Oper.semAt_some
theorem wr_head {m : Nd} (hf : fitN m = true) {b : UInt8} {r : List UInt8} (h : wrL m = b :: r) : (b.toNat : Int) = m.kd ∧ r = bodyN m := by
 unfold wrL at h
 rw [List.cons.injEq] at h
 refine ⟨?_, h.2.symm⟩
 rw [← h.1]
 rcases fit_kinds hf with e | e | e <;> rw [e] <;> rfl
theorem wr_ne {m : Nd} : wrL m ≠ [] := by unfold wrL; simp
def GP (s : List UInt8) (c k : Nat) (L : List Pt) (R : List UInt8) (ok : Bool) : Prop := ∀ m, fitN m = true → wrL m = s → ok = true ∧ c = m.ps.length ∧ k ≤ c ∧ L = m.ps.take k ∧ R = psB (m.ps.drop k)
def GE (s : List UInt8) (c k : Nat) (L : List En) (R : List UInt8) (ok : Bool) : Prop := ∀ m, fitN m = true → wrL m = s → ok = true ∧ c = m.es.length ∧ k ≤ c ∧ L = m.es.take k ∧ R = esB (m.es.drop k)
def GN (s : List UInt8) (n : Nd) (ok : Bool) : Prop := ∀ m, fitN m = true → wrL m = s → ok = true ∧ n = m
theorem gp_start {b : UInt8} {r : List UInt8} {c j : Nat} (hb : b.toNat = 2) (hv : vtake r = (c, j, 0)) : GP (b :: r) c 0 [] (r.drop j) true := fun m hf h => by
 obtain ⟨h1, h2⟩ := wr_head hf h
 have hk : m.kd = 2 := by omega
 rw [body_file hk] at h2
 have h3 := (fit2 hk hf).2.2.1
 have ht := take_put (n := m.ps.length) (by unfold U64; omega) (psB m.ps)
 rw [← h2, hv] at ht
 simp only [Prod.mk.injEq, and_true] at ht
 refine ⟨rfl, ht.1, Nat.zero_le _, rfl, ?_⟩
 rw [h2, ht.2, List.drop_left]; rfl
theorem ge_start {b : UInt8} {r : List UInt8} {c j : Nat} (h1 : b.toNat ≠ 1) (h2 : b.toNat ≠ 2) (hv : vtake r = (c, j, 0)) : GE (b :: r) c 0 [] (r.drop j) true := fun m hf h => by
 obtain ⟨g1, g2⟩ := wr_head hf h
 have hk : m.kd = 3 := by rcases fit_kinds hf with e | e | e <;> omega
 rw [body_dir hk] at g2
 have h3 := (fit3 hk hf).2.2.1
 have ht := take_put (n := m.es.length) (by unfold U64; omega) (esB m.es)
 rw [← g2, hv] at ht
 simp only [Prod.mk.injEq, and_true] at ht
 refine ⟨rfl, ht.1, Nat.zero_le _, rfl, ?_⟩
 rw [g2, ht.2, List.drop_left]; rfl
theorem gp_bad {s : List UInt8} {c k : Nat} {L L' : List Pt} {R R' : List UInt8} (h : GP s c k L R true) (hk : k < c) (hn : pPart R = none) (kd : ∀ m, fitN m = true → wrL m = s → m.kd = 2) : GP s c (k + 1) L' R' false := fun m hf hw => by
 obtain ⟨_, h2, _, _, h5⟩ := h m hf hw
 have hlt : k < m.ps.length := by omega
 have hok := (fitFile_iff.1 (fit2 (kd m hf hw) hf).2.2.2).1 _ (List.getElem_mem hlt)
 rw [h5, List.drop_eq_getElem_cons hlt] at hn
 have := pPart_full hok (psB (m.ps.drop (k + 1)))
 rw [show ptB m.ps[k] ++ psB (m.ps.drop (k + 1)) = psB (m.ps[k] :: m.ps.drop (k + 1)) from rfl, hn] at this
 cases this
theorem gp_step {s : List UInt8} {c k : Nat} {L : List Pt} {R R' : List UInt8} {p : Pt} (h : GP s c k L R true) (hk : k < c) (hn : pPart R = some (p, R')) (kd : ∀ m, fitN m = true → wrL m = s → m.kd = 2) : GP s c (k + 1) (L ++ [p]) R' true := fun m hf hw => by
 obtain ⟨_, h2, _, h4, h5⟩ := h m hf hw
 have hlt : k < m.ps.length := by omega
 have hok := (fitFile_iff.1 (fit2 (kd m hf hw) hf).2.2.2).1 _ (List.getElem_mem hlt)
 rw [h5, List.drop_eq_getElem_cons hlt] at hn
 have := pPart_full hok (psB (m.ps.drop (k + 1)))
 rw [show ptB m.ps[k] ++ psB (m.ps.drop (k + 1)) = psB (m.ps[k] :: m.ps.drop (k + 1)) from rfl, hn] at this
 simp only [Option.some.injEq, Prod.mk.injEq] at this
 refine ⟨rfl, h2, by omega, ?_, this.2⟩
 rw [h4, this.1, List.take_succ_eq_append_getElem hlt]
theorem ge_bad {s : List UInt8} {c k : Nat} {L L' : List En} {R R' : List UInt8} (h : GE s c k L R true) (hk : k < c) (hn : dEntry R = none) (kd : ∀ m, fitN m = true → wrL m = s → m.kd = 3) : GE s c (k + 1) L' R' false := fun m hf hw => by
 obtain ⟨_, h2, _, _, h5⟩ := h m hf hw
 have hlt : k < m.es.length := by omega
 have hok := (fitDir_iff.1 (fit3 (kd m hf hw) hf).2.2.2).1 _ (List.getElem_mem hlt)
 rw [h5, List.drop_eq_getElem_cons hlt] at hn
 have := dEntry_full hok (esB (m.es.drop (k + 1)))
 rw [show enB m.es[k] ++ esB (m.es.drop (k + 1)) = esB (m.es[k] :: m.es.drop (k + 1)) from rfl, hn] at this
 cases this
theorem ge_step {s : List UInt8} {c k : Nat} {L : List En} {R R' : List UInt8} {p : En} {q : Bool} (h : GE s c k L R true) (hk : k < c) (hn : dEntry R = some (p, R', q)) (kd : ∀ m, fitN m = true → wrL m = s → m.kd = 3) : GE s c (k + 1) (L ++ [p]) R' q := fun m hf hw => by
 obtain ⟨_, h2, _, h4, h5⟩ := h m hf hw
 have hlt : k < m.es.length := by omega
 have hok := (fitDir_iff.1 (fit3 (kd m hf hw) hf).2.2.2).1 _ (List.getElem_mem hlt)
 rw [h5, List.drop_eq_getElem_cons hlt] at hn
 have := dEntry_full hok (esB (m.es.drop (k + 1)))
 rw [show enB m.es[k] ++ esB (m.es.drop (k + 1)) = esB (m.es[k] :: m.es.drop (k + 1)) from rfl, hn] at this
 simp only [Option.some.injEq, Prod.mk.injEq] at this
 refine ⟨this.2.2, h2, by omega, ?_, this.2.1⟩
 rw [h4, this.1, List.take_succ_eq_append_getElem hlt]
theorem gp_end {s : List UInt8} {b c k : Nat} {L : List Pt} {R : List UInt8} {ok : Bool} (h : GP s c k L R ok) (hk : ok = true → c ≤ k) (kd : ∀ m, fitN m = true → wrL m = s → m.kd = 2) (hb : b = 2) : GN s ⟨(b : Int), ⟨#[]⟩, L, []⟩ ok := fun m hf hw => by
 obtain ⟨h1, h2, h3, h4, _⟩ := h m hf hw
 have := hk h1
 obtain ⟨g1, g2, _, _⟩ := fit2 (kd m hf hw) hf
 exact ⟨h1, nd_ext (by rw [kd m hf hw, hb]; rfl) g1.symm (by rw [h4]; exact List.take_of_length_le (by omega)) g2.symm⟩
theorem ge_end {s : List UInt8} {b c k : Nat} {L : List En} {R : List UInt8} {ok : Bool} (h : GE s c k L R ok) (hk : ok = true → c ≤ k) (kd : ∀ m, fitN m = true → wrL m = s → m.kd = 3 ∧ b = 3) : GN s ⟨(b : Int), ⟨#[]⟩, [], L⟩ ok := fun m hf hw => by
 obtain ⟨h1, h2, h3, h4, _⟩ := h m hf hw
 have := hk h1
 obtain ⟨k1, k2⟩ := kd m hf hw
 obtain ⟨g1, g2, _, _⟩ := fit3 k1 hf
 exact ⟨h1, nd_ext (by rw [k1, k2]; rfl) g1.symm g2.symm (by rw [h4]; exact List.take_of_length_le (by omega))⟩
theorem rdd_bad {s : List UInt8} {n : Nd} (h : GN s n false) : RdOk s zeroNd 2 := .inr ⟨rfl, rfl, fun m hm e => by cases (h m hm e).1⟩
theorem rdd_unfit {s : List UInt8} {n : Nd} {ok : Bool} (h : GN s n ok) (hf : fitN n = false) : RdOk s zeroNd 2 := .inr ⟨rfl, rfl, fun m hm e => by
 have := (h m hm e).2; rw [this, hm] at hf; cases hf⟩
theorem rdd_other {s : List UInt8} {n : Nd} {ok : Bool} (h : GN s n ok) (hw : wrL n ≠ s) : RdOk s zeroNd 2 := .inr ⟨rfl, rfl, fun m hm e => hw (by rw [(h m hm e).2]; exact e)⟩
theorem row_grownP {w w' : World} {base B : Nat} {v : Value} {M : List Pt} {xs : Array Value} {T : TypeId} (h : Row w B xs T) (ho : OwnP base w v M) (hg : w.grownBy w' v.ownBlock) (hlt : B < base) : Row w' B xs T := by
 unfold Row; rw [hg.block B h.lt (fun e => by have := (ho.lt B e.symm).1; omega)]; exact h
theorem row_grownE {w w' : World} {base B : Nat} {v : Value} {M : List En} {xs : Array Value} {T : TypeId} (h : Row w B xs T) (ho : OwnE base w v M) (hg : w.grownBy w' v.ownBlock) (hlt : B < base) : Row w' B xs T := by
 unfold Row; rw [hg.block B h.lt (fun e => by have := (ho.lt B e.symm).1; omega)]; exact h
def RetR (n : Nd) (err : Int) (w : World) (e : Ending) (w' : World) : Prop := ∃ pv ev, e = .returned (.tuple #[ndV n pv ev, .int .i64 err]) ∧ IsParts w' pv n.ps ∧ IsEntries w' ev n.es ∧ Below w.heap.size w w'
theorem take_ok {b : UInt8} {r : List UInt8} {n j x : Nat} (h1 : b.toNat ≠ 1) (hv : vtake r = (n, j, x)) {m : Nd} (hf : fitN m = true) (h : wrL m = b :: r) : x = 0 ∧ n ≤ 1024 := by
 obtain ⟨g1, g2⟩ := wr_head hf h
 rcases fit_kinds hf with hk | hk | hk
 ·omega
 ·rw [body_file hk] at g2
  have h3 := (fit2 hk hf).2.2.1
  have ht := take_put (n := m.ps.length) (by unfold U64; omega) (psB m.ps)
  rw [← g2, hv] at ht
  simp only [Prod.mk.injEq] at ht
  omega
 ·rw [body_dir hk] at g2
  have h3 := (fit3 hk hf).2.2.1
  have ht := take_put (n := m.es.length) (by unfold U64; omega) (esB m.es)
  rw [← g2, hv] at ht
  simp only [Prod.mk.injEq] at ht
  omega
theorem OwnP.setNe {B b i : Nat} {w : World} {v : Value} {L : List Pt} (h : OwnP B w v L) (ha : ∀ g, v.ownBlock = some g → g < b) (u : Value) : OwnP B (w.setCell ⟨b, i, none⟩ u) v L :=
 World.ownsRow.kept h (grownBy_set w b i u) (by
  cases hv : v.ownBlock with
  | none => exact .inl rfl
  | some k =>
   refine .inr fun e => ?_
   have := ha k hv
   cases e; omega)
theorem OwnE.setNe {B b i : Nat} {w : World} {v : Value} {L : List En} (h : OwnE B w v L) (ha : ∀ g, v.ownBlock = some g → g < b) (u : Value) : OwnE B (w.setCell ⟨b, i, none⟩ u) v L :=
 World.ownsRow.kept h (grownBy_set w b i u) (by
  cases hv : v.ownBlock with
  | none => exact .inl rfl
  | some k =>
   refine .inr fun e => ?_
   have := ha k hv
   cases e; omega)
theorem wpList_append_parts2 {ops : Array Oper} {rest : List Oper} {o : Oper} {a : Act} {B z : Nat} {w0 : World} {Q : Exit → Act → World → Prop} (hgd : o.guard = none) (s x : Operand)
  (ho : o.op = .call { callee := .builtin .append, args := #[s, x], argTypes := #[50, 50] })
  {v : Value} {M : List Pt} {y : Pt} (hown : OwnP B w0 v M) (hBs : B ≤ w0.heap.size) (hz : z = w0.heap.size) (hs : a.eval s = v)
  (hx : a.eval x = .slice (some ⟨z, 0, none⟩) 1 1) (hlen : M.length ≤ 1000000)
  (h : ∀ v' w', OwnP B w' v' (M ++ [y]) → w0.grownBy w' v.ownBlock → wpList Tryz.prog ops Q rest (a.put o.dst v') w') :
  wpList Tryz.prog ops Q (o :: rest) a (w0.alloc (.cells #[.string y.k, .int .i64 y.n] 87)) := by
 subst hz
 exact wpList_append_parts hgd s x ho hown hBs hs hx hlen h
theorem wpList_append_entries2 {ops : Array Oper} {rest : List Oper} {o : Oper} {a : Act} {B z : Nat} {w0 : World} {Q : Exit → Act → World → Prop} (hgd : o.guard = none) (s x : Operand)
  (ho : o.op = .call { callee := .builtin .append, args := #[s, x], argTypes := #[51, 51] })
  {v : Value} {M : List En} {y : En} (hown : OwnE B w0 v M) (hBs : B ≤ w0.heap.size) (hz : z = w0.heap.size) (hs : a.eval s = v)
  (hx : a.eval x = .slice (some ⟨z, 0, none⟩) 1 1) (hlen : M.length ≤ 1000000)
  (h : ∀ v' w', OwnE B w' v' (M ++ [y]) → w0.grownBy w' v.ownBlock → wpList Tryz.prog ops Q rest (a.put o.dst v') w') :
  wpList Tryz.prog ops Q (o :: rest) a (w0.alloc (.cells #[.string y.m, .int .i64 y.kd, .bool y.x, .string y.k] 91)) := by
 subst hz
 exact wpList_append_entries hgd s x ho hown hBs hs hx hlen h
theorem row2_row {w : World} {B : Nat} {a b : Value} {T : TypeId} (h : Row w B #[a, b] T) (p q : Value) : Row ((w.setCell ⟨B, 0, none⟩ p).setCell ⟨B, 1, none⟩ q) B #[p, q] T := (h.set 0 p).set 1 q
theorem gn_piece {b : UInt8} {r : List UInt8} {R : ByteArray} (hb : b.toNat = 1) (hR : R.data.toList = r) : GN (b :: r) ⟨(b.toNat : Int), R, [], []⟩ true := fun m hf h => by
 obtain ⟨g1, g2⟩ := wr_head hf h
 have hk : m.kd = 1 := by omega
 rw [body_piece hk] at g2
 obtain ⟨_, _, h3, h4⟩ := fit1 hk hf
 exact ⟨rfl, nd_ext (by show (b.toNat : Int) = m.kd; omega) (str_eq' (by rw [hR]; exact g2)) h3.symm h4.symm⟩
theorem pPart_rest {l r : List UInt8} {p : Pt} (h : pPart l = some (p, r)) : r.length < l.length := (pPart_sound h).2.2.2.2
theorem dEntry_rest {l r : List UInt8} {p : En} {q : Bool} (h : dEntry l = some (p, r, q)) : r.length < l.length := by
 unfold dEntry at h
 split at h
 ·cases h
 ·split at h
  ·cases h
  ·rename_i h2
   simp only [Option.some.injEq, Prod.mk.injEq] at h
   obtain ⟨_, rfl, _⟩ := h
   rw [List.length_drop] at h2 ⊢
   omega
set_option maxRecDepth 100000 in
set_option maxHeartbeats 6000000 in
theorem rRead_any (S : ByteArray) (hS : S.size ≤ 1000000) (w : World) :
  Calls Tryz.prog 25 #[.string S] w fun e w' => ∃ n err, RdOk S.data.toList n err ∧ RetR n err w e w' := by
 have hb0 := (Below.refl w.heap.size w).alloc (Nat.le_refl _) (.cells #[.int .i64 0, .string ⟨#[]⟩, .slice none 0 0, .slice none 0 0] 53)
 have HX0 := Lib.hid (Row.made w #[.int .i64 0, .string ⟨#[]⟩, .slice none 0 0, .slice none 0 0] 53)
 have hsz := Lib.size_eq S
 cases hl : S.data.toList with
 | nil =>
  have HRD : Hid (RdOk S.data.toList zeroNd 2) := Lib.hid (.inr ⟨rfl, rfl, fun m _ e => wr_ne (e.trans hl)⟩)
  have q : S.toList.isEmpty = true := by rw [Lib.toList_data, hl]; rfl
  rw [← hl]
  clear hsz hl
  go_enter Tryz.func25, Tryz.ntmps25
  go_wp2
  exact bodyPost_ret (v := .tuple #[.agg #[.int .i64 0, .string ⟨#[]⟩, .slice none 0 0, .slice none 0 0], .int .i64 2]) (by simp [results, Tryz.results25, go_sem]) rfl ⟨zeroNd, 2, HRD.out, _, _, rfl, parts_nil _, entries_nil _, hb0⟩
 | cons b r =>
  rw [hl, List.length_cons] at hsz
  have q : S.toList.isEmpty = false := by rw [Lib.toList_data, hl]; rfl
  have hpos : 0 < S.size := by omega
  have hci : S[0] = b := by
   have : S.data.toList[0]'(by rw [hl]; simp) = b := by simp [hl]
   exact this
  have hbl := b.toNat_lt
  have hRl : (S.extract 1 S.size).data.toList = r := by rw [drop_str, hl]; rfl
  have hRs : (S.extract 1 S.size).size ≤ 1000000 := by rw [Lib.size_eq, hRl]; omega
  have hge1 : ¬ ((S.size : Int) < 1) := by omega
  have HL := Lib.hid hl
  rw [← hl]
  obtain ⟨V, hV⟩ : ∃ V, V = (w.alloc (.cells #[.int .i64 0, .string ⟨#[]⟩, .slice none 0 0, .slice none 0 0] 53)).alloc (.cells #[.int .i64 b.toNat, .string ⟨#[]⟩, .slice none 0 0, .slice none 0 0] 53) := ⟨_, rfl⟩
  have hbV : Below w.heap.size w V := by rw [hV]; exact ((Below.refl _ _).alloc (Nat.le_refl _) _).alloc (by simp) _
  have hRV : Row V w.heap.size #[.int .i64 0, .string ⟨#[]⟩, .slice none 0 0, .slice none 0 0] 53 := by rw [hV]; exact HX0.out.alloc _
  have hXV : Row V (w.heap.size + 1) #[.int .i64 b.toNat, .string ⟨#[]⟩, .slice none 0 0, .slice none 0 0] 53 := by
   have := Row.made (w.alloc (.cells #[.int .i64 0, .string ⟨#[]⟩, .slice none 0 0, .slice none 0 0] 53)) #[.int .i64 b.toNat, .string ⟨#[]⟩, .slice none 0 0, .slice none 0 0] 53
   rw [hV]; simpa using this
  have HV := Lib.hid hV; have HBV := Lib.hid hbV; have HRV := Lib.hid hRV; have HXV := Lib.hid hXV
  have hltX : w.heap.size + 1 < V.heap.size := hXV.lt
  clear hV hbV hRV hXV hb0 HX0 hl hsz
  by_cases h1 : b.toNat = 1
  ·have q1 : ((b.toNat : Int) == 1) = true := ie_t (by omega)
   have HG := Lib.hid (gn_piece (r := r) h1 hRl)
   rw [← HL.out] at HG
   obtain ⟨W1, hW1⟩ : ∃ W1, W1 = (w.alloc (.cells #[.int .i64 0, .string ⟨#[]⟩, .slice none 0 0, .slice none 0 0] 53)).alloc (.cells #[.int .i64 b.toNat, .string (S.extract 1 S.size), .slice none 0 0, .slice none 0 0] 53) := ⟨_, rfl⟩
   have HB0 : Hid (w.heap.size ≤ w.heap.size) := Lib.hid (Nat.le_refl _)
   have HBS : Hid (w.heap.size < V.heap.size) := Lib.hid (by omega)
   have HBW : Hid (Below w.heap.size w W1) := Lib.hid (by rw [hW1]; exact ((Below.refl _ _).alloc (Nat.le_refl _) _).alloc (by simp) _)
   have HRW : Hid (Row W1 w.heap.size #[.int .i64 0, .string ⟨#[]⟩, .slice none 0 0, .slice none 0 0] 53) := Lib.hid (by rw [hW1]; exact (Row.made w _ _).alloc _)
   have HXW : Hid (Row W1 (w.heap.size + 1) #[.int .i64 b.toNat, .string (S.extract 1 S.size), .slice none 0 0, .slice none 0 0] 53) := Lib.hid (by
    have := Row.made (w.alloc (.cells #[.int .i64 0, .string ⟨#[]⟩, .slice none 0 0, .slice none 0 0] 53)) #[.int .i64 b.toNat, .string (S.extract 1 S.size), .slice none 0 0, .slice none 0 0] 53
    rw [hW1]; simpa using this)
   clear h1 hRl
   go_enter Tryz.func25, Tryz.ntmps25
   go_wp2_with fail
   rw [← hW1]
   clear hW1
   obtain ⟨n, hn⟩ : ∃ n : Nd, n = ⟨(b.toNat : Int), S.extract 1 S.size, [], []⟩ := ⟨_, rfl⟩
   have hnkd : n.kd = b.toNat := by rw [hn]
   have hnd : n.d = S.extract 1 S.size := by rw [hn]
   have HGN := Lib.hid (show GN S.data.toList n true from by rw [hn]; exact HG.out)
   have HOP : Hid (OwnP V.heap.size W1 (.slice none 0 0) n.ps) := Lib.hid (by rw [hn]; exact parts_own_nil _ _)
   have HOE : Hid (OwnE V.heap.size W1 (.slice none 0 0) n.es) := Lib.hid (by rw [hn]; exact entries_own_nil _ _)
   have RF := Lib.hid (rFit_any n (.slice none 0 0) (.slice none 0 0) (W1) HOP.out.is HOE.out.is)
   rw [show ndV n (.slice none 0 0) (.slice none 0 0) = .agg #[.int .i64 (b.toNat), .string (S.extract 1 S.size), .slice none 0 0, .slice none 0 0] by unfold ndV; rw [hnkd, hnd]] at RF
   have x0 := HXW.out.cell 0; have x1 := HXW.out.cell 1; have x2 := HXW.out.cell 2; have x3 := HXW.out.cell 3
   simp only [List.getElem?_toArray, List.getElem?_cons_zero, List.getElem?_cons_succ] at x0 x1 x2 x3
   have HNK := Lib.hid hnkd; have HND := Lib.hid hnd
   rcases hf : fitN n with _ | _
   ·rw [hf] at RF
    have HRD := Lib.hid (rdd_unfit HGN.out hf)
    clear hf hn hnkd hnd
    skip
    with_reducible refine RF.out.mono ?_
    rintro e w8 ⟨rfl, hb8⟩
    have HR9 := Lib.hid (HRW.out.step hb8)
    have HB9 := Lib.hid (HBW.out.trans (hb8.mono HBW.out.size))
    clear x0 x1 x2 x3 hb8
    have p0 := HR9.out.cell 0; have p1 := HR9.out.cell 1; have p2 := HR9.out.cell 2; have p3 := HR9.out.cell 3
    have f0 := HR9.out.free 0; have f1 := HR9.out.free 1; have f2 := HR9.out.free 2; have f3 := HR9.out.free 3
    simp only [List.getElem?_toArray, List.getElem?_cons_zero, List.getElem?_cons_succ] at p0 p1 p2 p3
    go_wp2
    have hR4 := row4_row HR9.out (.int .i64 0) (.string ⟨#[]⟩) (.slice none 0 0) (.slice none 0 0)
    have d0 := hR4.cell 0; have d1 := hR4.cell 1; have d2 := hR4.cell 2; have d3 := hR4.cell 3
    simp only [List.getElem?_toArray, List.getElem?_cons_zero, List.getElem?_cons_succ] at d0 d1 d2 d3
    refine bodyPost_ret (v := .tuple #[.agg #[.int .i64 0, .string ⟨#[]⟩, .slice none 0 0, .slice none 0 0], .int .i64 2]) (by simp [results, Tryz.results25, go_sem, d0, d1, d2, d3]) rfl ?_
    exact ⟨zeroNd, 2, HRD.out, _, _, rfl, parts_nil _, entries_nil _, (((HB9.out.setCell (p := ⟨w.heap.size, 0, none⟩) HB0.out _).setCell (p := ⟨w.heap.size, 1, none⟩) HB0.out _).setCell (p := ⟨w.heap.size, 2, none⟩) HB0.out _).setCell (p := ⟨w.heap.size, 3, none⟩) HB0.out _⟩
   ·rw [hf] at RF
    have HFN := Lib.hid hf
    clear hf hn hnkd hnd
    skip
    with_reducible refine RF.out.mono ?_
    rintro e w8 ⟨rfl, hb8⟩
    have HR8 := Lib.hid (HRW.out.step hb8)
    have HX8 := Lib.hid (HXW.out.step hb8)
    have HB8 := Lib.hid (HBW.out.trans (hb8.mono HBW.out.size))
    have HOP8 := Lib.hid (HOP.out.stays hb8); have HOE8 := Lib.hid (HOE.out.stays hb8)
    have RW := Lib.hid (rWriteF_any n (.slice none 0 0) (.slice none 0 0) w8 HOP8.out.is HOE8.out.is HFN.out)
    rw [show ndV n (.slice none 0 0) (.slice none 0 0) = .agg #[.int .i64 (b.toNat), .string (S.extract 1 S.size), .slice none 0 0, .slice none 0 0] by unfold ndV; rw [HNK.out, HND.out]] at RW
    rw [wrN_fit HFN.out] at RW
    clear x0 x1 x2 x3
    have x0 := HX8.out.cell 0; have x1 := HX8.out.cell 1; have x2 := HX8.out.cell 2; have x3 := HX8.out.cell 3
    simp only [List.getElem?_toArray, List.getElem?_cons_zero, List.getElem?_cons_succ] at x0 x1 x2 x3
    obtain ⟨Y, hY1, hY2⟩ := ex_str (wrL n)
    rw [← hY1] at RW
    by_cases hys : Y = S
    ·have y1 := beq_true hys
     have y2 : (!(Y.toList == S.toList)) = false := by rw [y1]; rfl
     have HRD : Hid (RdOk S.data.toList n 0) := Lib.hid (.inl ⟨rfl, HFN.out, by rw [← hY2, hys]⟩)
     clear hys hY1 hY2 hb8
     go_wp2_with fail
     with_reducible refine RW.out.mono ?_
     rintro e w9 ⟨rfl, hb9⟩
     have HR9 := Lib.hid (HR8.out.step hb9)
     have HX9 := HX8.out.step hb9
     have HB9 := Lib.hid (HB8.out.trans (hb9.mono HB8.out.size))
     have HOP9 := Lib.hid (HOP8.out.stays hb9); have HOE9 := Lib.hid (HOE8.out.stays hb9)
     clear x0 x1 x2 x3 hb9
     have x0 := HX9.cell 0; have x1 := HX9.cell 1; have x2 := HX9.cell 2; have x3 := HX9.cell 3
     have p0 := HR9.out.cell 0; have p1 := HR9.out.cell 1; have p2 := HR9.out.cell 2; have p3 := HR9.out.cell 3
     have f0 := HR9.out.free 0; have f1 := HR9.out.free 1; have f2 := HR9.out.free 2; have f3 := HR9.out.free 3
     simp only [List.getElem?_toArray, List.getElem?_cons_zero, List.getElem?_cons_succ] at p0 p1 p2 p3 x0 x1 x2 x3
     clear HX9
     go_wp2
     have hR4 := row4_row HR9.out (.int .i64 (b.toNat)) (.string (S.extract 1 S.size)) (.slice none 0 0) (.slice none 0 0)
     have d0 := hR4.cell 0; have d1 := hR4.cell 1; have d2 := hR4.cell 2; have d3 := hR4.cell 3
     simp only [List.getElem?_toArray, List.getElem?_cons_zero, List.getElem?_cons_succ] at d0 d1 d2 d3
     refine bodyPost_ret (v := .tuple #[.agg #[.int .i64 (b.toNat), .string (S.extract 1 S.size), .slice none 0 0, .slice none 0 0], .int .i64 0]) (by simp [results, Tryz.results25, go_sem, d0, d1, d2, d3]) rfl ?_
     refine ⟨n, 0, HRD.out, .slice none 0 0, .slice none 0 0, by rw [show ndV n (.slice none 0 0) (.slice none 0 0) = .agg #[.int .i64 (b.toNat), .string (S.extract 1 S.size), .slice none 0 0, .slice none 0 0] by unfold ndV; rw [HNK.out, HND.out]], ?_, ?_, (((HB9.out.setCell (p := ⟨w.heap.size, 0, none⟩) HB0.out _).setCell (p := ⟨w.heap.size, 1, none⟩) HB0.out _).setCell (p := ⟨w.heap.size, 2, none⟩) HB0.out _).setCell (p := ⟨w.heap.size, 3, none⟩) HB0.out _⟩
     ·exact ((((HOP9.out.setBelow (a := ⟨w.heap.size, 0, none⟩) HBS.out _).setBelow (a := ⟨w.heap.size, 1, none⟩) HBS.out _).setBelow (a := ⟨w.heap.size, 2, none⟩) HBS.out _).setBelow (a := ⟨w.heap.size, 3, none⟩) HBS.out _).is
     ·exact ((((HOE9.out.setBelow (a := ⟨w.heap.size, 0, none⟩) HBS.out _).setBelow (a := ⟨w.heap.size, 1, none⟩) HBS.out _).setBelow (a := ⟨w.heap.size, 2, none⟩) HBS.out _).setBelow (a := ⟨w.heap.size, 3, none⟩) HBS.out _).is
    ·have y1 := beq_false hys
     have y2 : (!(Y.toList == S.toList)) = true := by rw [y1]; rfl
     have HRD := Lib.hid (rdd_other HGN.out (fun e => hys (str_eq' (by rw [hY2]; exact e))))
     clear hys hY1 hY2 hb8
     go_wp2_with fail
     with_reducible refine RW.out.mono ?_
     rintro e w9 ⟨rfl, hb9⟩
     have HR9 := Lib.hid (HR8.out.step hb9)
     have HB9 := Lib.hid (HB8.out.trans (hb9.mono HB8.out.size))
     clear x0 x1 x2 x3 hb9
     have p0 := HR9.out.cell 0; have p1 := HR9.out.cell 1; have p2 := HR9.out.cell 2; have p3 := HR9.out.cell 3
     have f0 := HR9.out.free 0; have f1 := HR9.out.free 1; have f2 := HR9.out.free 2; have f3 := HR9.out.free 3
     simp only [List.getElem?_toArray, List.getElem?_cons_zero, List.getElem?_cons_succ] at p0 p1 p2 p3
     go_wp2
     have hR4 := row4_row HR9.out (.int .i64 0) (.string ⟨#[]⟩) (.slice none 0 0) (.slice none 0 0)
     have d0 := hR4.cell 0; have d1 := hR4.cell 1; have d2 := hR4.cell 2; have d3 := hR4.cell 3
     simp only [List.getElem?_toArray, List.getElem?_cons_zero, List.getElem?_cons_succ] at d0 d1 d2 d3
     refine bodyPost_ret (v := .tuple #[.agg #[.int .i64 0, .string ⟨#[]⟩, .slice none 0 0, .slice none 0 0], .int .i64 2]) (by simp [results, Tryz.results25, go_sem, d0, d1, d2, d3]) rfl ?_
     exact ⟨zeroNd, 2, HRD.out, _, _, rfl, parts_nil _, entries_nil _, (((HB9.out.setCell (p := ⟨w.heap.size, 0, none⟩) HB0.out _).setCell (p := ⟨w.heap.size, 1, none⟩) HB0.out _).setCell (p := ⟨w.heap.size, 2, none⟩) HB0.out _).setCell (p := ⟨w.heap.size, 3, none⟩) HB0.out _⟩
  ·have q1 : ((b.toNat : Int) == 1) = false := ie_f (by omega)
   have T := Lib.hid (fun w => refTake_any (S.extract 1 S.size) (by unfold maxLen; omega) w)
   rw [hRl] at T
   obtain ⟨c, j, x, hv⟩ : ∃ n j x, vtake r = (n, j, x) := ⟨_, _, _, rfl⟩
   have HTK := Lib.hid (fun m hf h => take_ok (m := m) h1 hv hf h)
   rw [hv] at T
   have HB0 : Hid (w.heap.size ≤ w.heap.size) := Lib.hid (Nat.le_refl _)
   have HBS : Hid (w.heap.size < V.heap.size) := Lib.hid (by omega)
   by_cases hx : x = 0
   ·subst hx
    by_cases h4 : 1024 < c
    ·have HRD : Hid (RdOk S.data.toList zeroNd 2) := Lib.hid (.inr ⟨rfl, rfl, fun m hm e => by
      have := (HTK.out m hm (e.trans HL.out)).2; omega⟩)
     have q4 : decide ((1024 : Int) < (c : Int)) = true := decide_eq_true (by omega)
     have HR9 := HRV; have HB9 := HBV
     clear hv h4 h1 hRl HTK
     go_enter Tryz.func25, Tryz.ntmps25
     go_wp2_with fail
     rw [← HV.out]
     with_reducible refine (T.out _).mono ?_
     rintro e w1 ⟨rfl, hw1⟩
     subst hw1
     have p0 := HR9.out.cell 0; have p1 := HR9.out.cell 1; have p2 := HR9.out.cell 2; have p3 := HR9.out.cell 3
     have f0 := HR9.out.free 0; have f1 := HR9.out.free 1; have f2 := HR9.out.free 2; have f3 := HR9.out.free 3
     simp only [List.getElem?_toArray, List.getElem?_cons_zero, List.getElem?_cons_succ] at p0 p1 p2 p3
     go_wp2
     have hR4 := row4_row HR9.out (.int .i64 0) (.string ⟨#[]⟩) (.slice none 0 0) (.slice none 0 0)
     have d0 := hR4.cell 0; have d1 := hR4.cell 1; have d2 := hR4.cell 2; have d3 := hR4.cell 3
     simp only [List.getElem?_toArray, List.getElem?_cons_zero, List.getElem?_cons_succ] at d0 d1 d2 d3
     refine bodyPost_ret (v := .tuple #[.agg #[.int .i64 0, .string ⟨#[]⟩, .slice none 0 0, .slice none 0 0], .int .i64 2]) (by simp [results, Tryz.results25, go_sem, d0, d1, d2, d3]) rfl ?_
     exact ⟨zeroNd, 2, HRD.out, _, _, rfl, parts_nil _, entries_nil _, (((HB9.out.setCell (p := ⟨w.heap.size, 0, none⟩) HB0.out _).setCell (p := ⟨w.heap.size, 1, none⟩) HB0.out _).setCell (p := ⟨w.heap.size, 2, none⟩) HB0.out _).setCell (p := ⟨w.heap.size, 3, none⟩) HB0.out _⟩
    ·have q4 : decide ((1024 : Int) < (c : Int)) = false := decide_eq_false (by omega)
     have hj := (put_take hv).2.2.1
     obtain ⟨Q, hQ⟩ : ∃ Q, Q = (S.extract 1 S.size).extract j (S.extract 1 S.size).size := ⟨_, rfl⟩
     have hQl : Q.data.toList = r.drop j := by rw [hQ, drop_str, hRl]
     have hs2 : ∀ W, Sem.run Tryz.prog (Instr.slice 9 (.string (S.extract 1 S.size)) (some (.int .i64 (j : Int))) none none) W = .ok (.string Q) W := fun W => by
      rw [hQ]; exact run_slice_from (P := Tryz.prog) Tryz.underlying9 (S.extract 1 S.size) j (by rw [Lib.size_eq, hRl]; exact hj) W
     have hQs : Q.size ≤ 1000000 := by rw [Lib.size_eq, hQl, List.length_drop]; have := Lib.size_eq (S.extract 1 S.size); rw [hRl] at this; omega
     have hc4 : c ≤ 1024 := by omega
     by_cases h2 : b.toNat = 2
     ·have q2 : ((b.toNat : Int) == 2) = true := ie_t (by omega)
      have HB2K := Lib.hid h2
      have HGS := Lib.hid (gp_start (j := j) h2 hv)
      rw [← HL.out, ← hQl] at HGS
      have HKD : Hid (∀ m, fitN m = true → wrL m = S.data.toList → m.kd = 2) := Lib.hid (fun m hf h => by
       have := (wr_head hf (h.trans HL.out)).1
       rcases fit_kinds hf with e | e | e <;> omega)
      clear hv h4 hRl hj hQl hQ HTK h1 h2
      go_enter Tryz.func25, Tryz.ntmps25
      go_wp2_with fail
      rw [← HV.out]
      with_reducible refine (T.out _).mono ?_
      rintro e w1 ⟨rfl, hw1⟩
      subst hw1
      go_wp2
      go_loopw [5, 9, 10] (fun s o i wr => ∃ (k : Nat) (v : Value) (L : List Pt) (R : ByteArray) (ok : Bool), s = .string R ∧ o = .bool ok ∧ i = .int .u64 k ∧ R.size ≤ 1000000 ∧ L.length = k ∧ k ≤ c ∧ GP S.data.toList c k L R.data.toList ok ∧ Row wr (w.heap.size + 1) #[.int .i64 b.toNat, .string ⟨#[]⟩, v, .slice none 0 0] 53 ∧ Row wr w.heap.size #[.int .i64 0, .string ⟨#[]⟩, .slice none 0 0, .slice none 0 0] 53 ∧ OwnP w1.heap.size wr v L ∧ Below w.heap.size w wr ∧ w1.heap.size ≤ wr.heap.size) (fun _ _ i _ => c - (intOf i).toNat)
      case atStart => exact ⟨0, .slice none 0 0, [], Q, true, rfl, rfl, rfl, hQs, rfl, Nat.zero_le _, HGS.out, HXV.out, HRV.out, parts_own_nil _ _, HBV.out, Nat.le_refl _⟩
      case round =>
       obtain ⟨k, v, L, R, ok, rfl, rfl, rfl, hRz, hLk, hkc, hG, hX, hR, hO, hB, hszV⟩ := hrel
       have HG := Lib.hid hG; have HX := Lib.hid hX; have HR := Lib.hid hR; have HO := Lib.hid hO; have HB := Lib.hid hB
       obtain ⟨_, va, vc, hve, _, _⟩ := hO.is
       have HLK := Lib.hid hLk
       rw [hLk] at hve
       subst hve
       have x0 := hX.cell 0; have x1 := hX.cell 1; have x2 := hX.cell 2; have x3 := hX.cell 3
       simp only [List.getElem?_toArray, List.getElem?_cons_zero, List.getElem?_cons_succ] at x0 x1 x2 x3
       have hXlt := hX.lt
       clear hG hX hR hO hB hLk
       cases ok with
       | false =>
        have HE := Lib.hid (gp_end HG.out (fun h => by cases h) HKD.out HB2K.out)
        by_cases hk : k < c
        ·have qk : decide (k < c) = true := decide_eq_true hk
         have HRD := Lib.hid (rdd_bad HE.out)
         have HR9 := HR; have HB9 := HB
         have p0 := HR9.out.cell 0; have p1 := HR9.out.cell 1; have p2 := HR9.out.cell 2; have p3 := HR9.out.cell 3
         have f0 := HR9.out.free 0; have f1 := HR9.out.free 1; have f2 := HR9.out.free 2; have f3 := HR9.out.free 3
         simp only [List.getElem?_toArray, List.getElem?_cons_zero, List.getElem?_cons_succ] at p0 p1 p2 p3
         go_wp2
         have hR4 := row4_row HR9.out (.int .i64 0) (.string ⟨#[]⟩) (.slice none 0 0) (.slice none 0 0)
         have d0 := hR4.cell 0; have d1 := hR4.cell 1; have d2 := hR4.cell 2; have d3 := hR4.cell 3
         simp only [List.getElem?_toArray, List.getElem?_cons_zero, List.getElem?_cons_succ] at d0 d1 d2 d3
         refine bodyPost_ret (v := .tuple #[.agg #[.int .i64 0, .string ⟨#[]⟩, .slice none 0 0, .slice none 0 0], .int .i64 2]) (by simp [results, Tryz.results25, go_sem, d0, d1, d2, d3]) rfl ?_
         exact ⟨zeroNd, 2, HRD.out, _, _, rfl, parts_nil _, entries_nil _, (((HB9.out.setCell (p := ⟨w.heap.size, 0, none⟩) HB0.out _).setCell (p := ⟨w.heap.size, 1, none⟩) HB0.out _).setCell (p := ⟨w.heap.size, 2, none⟩) HB0.out _).setCell (p := ⟨w.heap.size, 3, none⟩) HB0.out _⟩
        ·have qk : decide (k < c) = false := decide_eq_false hk
         have HRD := Lib.hid (rdd_bad HE.out)
         have HR9 := HR; have HB9 := HB
         have p0 := HR9.out.cell 0; have p1 := HR9.out.cell 1; have p2 := HR9.out.cell 2; have p3 := HR9.out.cell 3
         have f0 := HR9.out.free 0; have f1 := HR9.out.free 1; have f2 := HR9.out.free 2; have f3 := HR9.out.free 3
         simp only [List.getElem?_toArray, List.getElem?_cons_zero, List.getElem?_cons_succ] at p0 p1 p2 p3
         go_wp2
         have hR4 := row4_row HR9.out (.int .i64 0) (.string ⟨#[]⟩) (.slice none 0 0) (.slice none 0 0)
         have d0 := hR4.cell 0; have d1 := hR4.cell 1; have d2 := hR4.cell 2; have d3 := hR4.cell 3
         simp only [List.getElem?_toArray, List.getElem?_cons_zero, List.getElem?_cons_succ] at d0 d1 d2 d3
         refine bodyPost_ret (v := .tuple #[.agg #[.int .i64 0, .string ⟨#[]⟩, .slice none 0 0, .slice none 0 0], .int .i64 2]) (by simp [results, Tryz.results25, go_sem, d0, d1, d2, d3]) rfl ?_
         exact ⟨zeroNd, 2, HRD.out, _, _, rfl, parts_nil _, entries_nil _, (((HB9.out.setCell (p := ⟨w.heap.size, 0, none⟩) HB0.out _).setCell (p := ⟨w.heap.size, 1, none⟩) HB0.out _).setCell (p := ⟨w.heap.size, 2, none⟩) HB0.out _).setCell (p := ⟨w.heap.size, 3, none⟩) HB0.out _⟩
       | true =>
        by_cases hk : k < c
        ·have qk : decide (k < c) = true := decide_eq_true hk
         have hw1 : IntKind.u64.wrap ((k : Int) + 1) = (k : Int) + 1 := by rw [IntKind.wrap_u64]; omega
         have P1 := Lib.hid (rpart_any R hRz)
         have hown := fun g (hg : (Value.slice va k vc).ownBlock = some g) => (HO.out.lt g hg).2
         cases hp : pPart R.data.toList with
         | none =>
          have HS := Lib.hid (fun L' R' => gp_bad (L' := L') (R' := R') HG.out hk hp HKD.out)
          rw [hp] at P1
          simp only [rPartV] at P1
          clear hp
          go_wp2_with fail
          with_reducible refine (P1.out _).mono ?_
          rintro e w2 ⟨rfl, hb2⟩
          have hb0 := (Below.refl wr.heap.size wr).alloc (Nat.le_refl _) (.cells #[.string ⟨#[]⟩, .int .i64 0] 87)
          have hb3 := below_step hb0 hb2
          have hP2 := (Row.made wr #[.string ⟨#[]⟩, .int .i64 0] 87).step hb2
          have hX2 := HX.out.step hb3
          have HR2 := Lib.hid (HR.out.step hb3)
          have HB2 := Lib.hid (below_step HB.out hb3)
          have HO2 := Lib.hid (HO.out.stays hb3)
          have hsz2 : wr.heap.size < w2.heap.size := hP2.lt
          clear x0 x1 x2 x3 hb0 hb2 hb3
          have x0 := hX2.cell 0; have x1 := hX2.cell 1; have x2 := hX2.cell 2; have x3 := hX2.cell 3
          have y0 := hX2.free 0; have y1 := hX2.free 1; have y2 := hX2.free 2; have y3 := hX2.free 3
          simp only [List.getElem?_toArray, List.getElem?_cons_zero, List.getElem?_cons_succ] at x0 x1 x2 x3
          have c0 := hP2.cell 0; have c1 := hP2.cell 1; have f0 := hP2.free 0; have f1 := hP2.free 1
          simp only [List.getElem?_toArray, List.getElem?_cons_zero, List.getElem?_cons_succ] at c0 c1
          have HO5 : Hid (OwnP w1.heap.size ((w2.setCell ⟨wr.heap.size, 0, none⟩ (.string ⟨#[]⟩)).setCell ⟨wr.heap.size, 1, none⟩ (.int .i64 0)) (.slice va k vc) L) := Lib.hid ((HO2.out.setNe (b := wr.heap.size) (i := 0) hown (.string ⟨#[]⟩)).setNe (b := wr.heap.size) (i := 1) hown (.int .i64 0))
          have hX5 := ((hX2.other ⟨wr.heap.size, 0, none⟩ (.string ⟨#[]⟩) (show w.heap.size + 1 ≠ wr.heap.size by omega)).other ⟨wr.heap.size, 1, none⟩ (.int .i64 0) (show w.heap.size + 1 ≠ wr.heap.size by omega))
          have HR5 := Lib.hid ((HR2.out.other ⟨wr.heap.size, 0, none⟩ (.string ⟨#[]⟩) (show w.heap.size ≠ wr.heap.size by omega)).other ⟨wr.heap.size, 1, none⟩ (.int .i64 0) (show w.heap.size ≠ wr.heap.size by omega))
          have HB5 := Lib.hid ((HB2.out.setCell (p := ⟨wr.heap.size, 0, none⟩) (by show w.heap.size ≤ wr.heap.size; omega) (.string ⟨#[]⟩)).setCell (p := ⟨wr.heap.size, 1, none⟩) (by show w.heap.size ≤ wr.heap.size; omega) (.int .i64 0))
          have hP5 := row2_row hP2 (.string ⟨#[]⟩) (.int .i64 0)
          have s0 := hX5.cell 0; have s1 := hX5.cell 1; have s2 := hX5.cell 2; have s3 := hX5.cell 3
          simp only [List.getElem?_toArray, List.getElem?_cons_zero, List.getElem?_cons_succ] at s0 s1 s2 s3
          have t0 := hP5.cell 0; have t1 := hP5.cell 1
          simp only [List.getElem?_toArray, List.getElem?_cons_zero, List.getElem?_cons_succ] at t0 t1
          have HX5 := Lib.hid hX5
          have hw5 : w1.heap.size ≤ ((w2.setCell ⟨wr.heap.size, 0, none⟩ (.string ⟨#[]⟩)).setCell ⟨wr.heap.size, 1, none⟩ (.int .i64 0)).heap.size := by simp [World.setCell]; omega
          have HZ5 : Hid (w2.heap.size = ((w2.setCell ⟨wr.heap.size, 0, none⟩ (.string ⟨#[]⟩)).setCell ⟨wr.heap.size, 1, none⟩ (.int .i64 0)).heap.size) := Lib.hid (by simp [World.setCell])
          have hLl : L.length ≤ 1000000 := by have := HLK.out; omega
          clear hX5 hP5 hX2 hP2
          go_wp2_with (at_builtin; refine wpList_append_parts2 (y := (⟨⟨#[]⟩, 0⟩ : Pt)) rfl _ _ rfl HO5.out hw5 HZ5.out rfl rfl hLl ?_)
          intro v' w6 hown6 hg6
          have hX6 := row_grownP HX5.out HO5.out hg6 (show w.heap.size + 1 < w1.heap.size by omega)
          have HR6 := Lib.hid (row_grownP HR5.out HO5.out hg6 (show w.heap.size < w1.heap.size by omega))
          have HB6 := Lib.hid (HB5.out.grown hg6 (by omega) (fun g hg => by have := (HO5.out.lt g hg).1; omega))
          have hsz6 := hg6.size
          obtain ⟨_, va2, vc2, hve, _, _⟩ := hown6.is
          subst hve
          have HO6 := Lib.hid (hown6.setBelow (a := ⟨w.heap.size + 1, 2, none⟩) (show w.heap.size + 1 < w1.heap.size by omega) (.slice va2 (L ++ [(⟨⟨#[]⟩, 0⟩ : Pt)]).length vc2))
          have z0 := hX6.cell 0; have z1 := hX6.cell 1; have z2 := hX6.cell 2; have z3 := hX6.cell 3
          have n0 := hX6.free 0; have n1 := hX6.free 1; have n2 := hX6.free 2; have n3 := hX6.free 3
          simp only [List.getElem?_toArray, List.getElem?_cons_zero, List.getElem?_cons_succ] at z0 z1 z2 z3
          have HX7 := Lib.hid (hX6.set 2 (.slice va2 (L ++ [(⟨⟨#[]⟩, 0⟩ : Pt)]).length vc2))
          have HR7 := Lib.hid (HR6.out.other ⟨w.heap.size + 1, 2, none⟩ (.slice va2 (L ++ [(⟨⟨#[]⟩, 0⟩ : Pt)]).length vc2) (show w.heap.size ≠ w.heap.size + 1 by omega))
          have HB7 := Lib.hid (HB6.out.setCell (p := ⟨w.heap.size + 1, 2, none⟩) (by simp) (.slice va2 (L ++ [(⟨⟨#[]⟩, 0⟩ : Pt)]).length vc2))
          have hlen : (L ++ [(⟨⟨#[]⟩, 0⟩ : Pt)]).length = k + 1 := by rw [List.length_append, HLK.out]; rfl
          obtain ⟨M, hM⟩ : ∃ M, M = L ++ [(⟨⟨#[]⟩, 0⟩ : Pt)] := ⟨_, rfl⟩
          rw [← hM] at HO6 HX7 HR7 HB7 hlen ⊢
          have HM := Lib.hid hM
          have HLE := Lib.hid hlen
          clear hX6 hown6 hg6 x0 x1 x2 x3 y0 y1 y2 y3 s0 s1 s2 s3 c0 f0 t0 c1 f1 t1 hM hlen hown
          go_wp2
          go_roundw
          case rel => exact ⟨k + 1, .slice va2 M.length vc2, M, ⟨#[]⟩, false, rfl, rfl, by go_num, by decide, HLE.out, by omega, HS.out _ _, HX7.out, HR7.out, HO6.out, HB7.out, by simp [World.setCell] at hsz6 ⊢; omega⟩
          case measure => simp [intOf]; omega
         | some y =>
          obtain ⟨p, R'⟩ := y
          have HS := Lib.hid (gp_step HG.out hk hp HKD.out)
          have hRl := pPart_rest hp
          rw [← Lib.size_eq] at hRl
          have hRz' : (⟨R'.toArray⟩ : ByteArray).size ≤ 1000000 := by rw [Lib.size_eq]; show R'.length ≤ _; omega
          rw [hp] at P1
          simp only [rPartV] at P1
          clear hp hRl
          go_wp2_with fail
          with_reducible refine (P1.out _).mono ?_
          rintro e w2 ⟨rfl, hb2⟩
          have hb0 := (Below.refl wr.heap.size wr).alloc (Nat.le_refl _) (.cells #[.string ⟨#[]⟩, .int .i64 0] 87)
          have hb3 := below_step hb0 hb2
          have hP2 := (Row.made wr #[.string ⟨#[]⟩, .int .i64 0] 87).step hb2
          have hX2 := HX.out.step hb3
          have HR2 := Lib.hid (HR.out.step hb3)
          have HB2 := Lib.hid (below_step HB.out hb3)
          have HO2 := Lib.hid (HO.out.stays hb3)
          have hsz2 : wr.heap.size < w2.heap.size := hP2.lt
          clear x0 x1 x2 x3 hb0 hb2 hb3
          have x0 := hX2.cell 0; have x1 := hX2.cell 1; have x2 := hX2.cell 2; have x3 := hX2.cell 3
          have y0 := hX2.free 0; have y1 := hX2.free 1; have y2 := hX2.free 2; have y3 := hX2.free 3
          simp only [List.getElem?_toArray, List.getElem?_cons_zero, List.getElem?_cons_succ] at x0 x1 x2 x3
          have c0 := hP2.cell 0; have c1 := hP2.cell 1; have f0 := hP2.free 0; have f1 := hP2.free 1
          simp only [List.getElem?_toArray, List.getElem?_cons_zero, List.getElem?_cons_succ] at c0 c1
          have HO5 : Hid (OwnP w1.heap.size ((w2.setCell ⟨wr.heap.size, 0, none⟩ (.string p.k)).setCell ⟨wr.heap.size, 1, none⟩ (.int .i64 p.n)) (.slice va k vc) L) := Lib.hid ((HO2.out.setNe (b := wr.heap.size) (i := 0) hown (.string p.k)).setNe (b := wr.heap.size) (i := 1) hown (.int .i64 p.n))
          have hX5 := ((hX2.other ⟨wr.heap.size, 0, none⟩ (.string p.k) (show w.heap.size + 1 ≠ wr.heap.size by omega)).other ⟨wr.heap.size, 1, none⟩ (.int .i64 p.n) (show w.heap.size + 1 ≠ wr.heap.size by omega))
          have HR5 := Lib.hid ((HR2.out.other ⟨wr.heap.size, 0, none⟩ (.string p.k) (show w.heap.size ≠ wr.heap.size by omega)).other ⟨wr.heap.size, 1, none⟩ (.int .i64 p.n) (show w.heap.size ≠ wr.heap.size by omega))
          have HB5 := Lib.hid ((HB2.out.setCell (p := ⟨wr.heap.size, 0, none⟩) (by show w.heap.size ≤ wr.heap.size; omega) (.string p.k)).setCell (p := ⟨wr.heap.size, 1, none⟩) (by show w.heap.size ≤ wr.heap.size; omega) (.int .i64 p.n))
          have hP5 := row2_row hP2 (.string p.k) (.int .i64 p.n)
          have s0 := hX5.cell 0; have s1 := hX5.cell 1; have s2 := hX5.cell 2; have s3 := hX5.cell 3
          simp only [List.getElem?_toArray, List.getElem?_cons_zero, List.getElem?_cons_succ] at s0 s1 s2 s3
          have t0 := hP5.cell 0; have t1 := hP5.cell 1
          simp only [List.getElem?_toArray, List.getElem?_cons_zero, List.getElem?_cons_succ] at t0 t1
          have HX5 := Lib.hid hX5
          have hw5 : w1.heap.size ≤ ((w2.setCell ⟨wr.heap.size, 0, none⟩ (.string p.k)).setCell ⟨wr.heap.size, 1, none⟩ (.int .i64 p.n)).heap.size := by simp [World.setCell]; omega
          have HZ5 : Hid (w2.heap.size = ((w2.setCell ⟨wr.heap.size, 0, none⟩ (.string p.k)).setCell ⟨wr.heap.size, 1, none⟩ (.int .i64 p.n)).heap.size) := Lib.hid (by simp [World.setCell])
          have hLl : L.length ≤ 1000000 := by have := HLK.out; omega
          clear hX5 hP5 hX2 hP2
          go_wp2_with (at_builtin; refine wpList_append_parts2 (y := p) rfl _ _ rfl HO5.out hw5 HZ5.out rfl rfl hLl ?_)
          intro v' w6 hown6 hg6
          have hX6 := row_grownP HX5.out HO5.out hg6 (show w.heap.size + 1 < w1.heap.size by omega)
          have HR6 := Lib.hid (row_grownP HR5.out HO5.out hg6 (show w.heap.size < w1.heap.size by omega))
          have HB6 := Lib.hid (HB5.out.grown hg6 (by omega) (fun g hg => by have := (HO5.out.lt g hg).1; omega))
          have hsz6 := hg6.size
          obtain ⟨_, va2, vc2, hve, _, _⟩ := hown6.is
          subst hve
          have HO6 := Lib.hid (hown6.setBelow (a := ⟨w.heap.size + 1, 2, none⟩) (show w.heap.size + 1 < w1.heap.size by omega) (.slice va2 (L ++ [p]).length vc2))
          have z0 := hX6.cell 0; have z1 := hX6.cell 1; have z2 := hX6.cell 2; have z3 := hX6.cell 3
          have n0 := hX6.free 0; have n1 := hX6.free 1; have n2 := hX6.free 2; have n3 := hX6.free 3
          simp only [List.getElem?_toArray, List.getElem?_cons_zero, List.getElem?_cons_succ] at z0 z1 z2 z3
          have HX7 := Lib.hid (hX6.set 2 (.slice va2 (L ++ [p]).length vc2))
          have HR7 := Lib.hid (HR6.out.other ⟨w.heap.size + 1, 2, none⟩ (.slice va2 (L ++ [p]).length vc2) (show w.heap.size ≠ w.heap.size + 1 by omega))
          have HB7 := Lib.hid (HB6.out.setCell (p := ⟨w.heap.size + 1, 2, none⟩) (by simp) (.slice va2 (L ++ [p]).length vc2))
          have hlen : (L ++ [p]).length = k + 1 := by rw [List.length_append, HLK.out]; rfl
          obtain ⟨M, hM⟩ : ∃ M, M = L ++ [p] := ⟨_, rfl⟩
          rw [← hM] at HO6 HX7 HR7 HB7 hlen ⊢
          have HM := Lib.hid hM
          have HLE := Lib.hid hlen
          clear hX6 hown6 hg6 x0 x1 x2 x3 y0 y1 y2 y3 s0 s1 s2 s3 c0 f0 t0 c1 f1 t1 hM hlen hown
          go_wp2
          go_roundw
          case rel => exact ⟨k + 1, .slice va2 M.length vc2, M, ⟨R'.toArray⟩, true, rfl, rfl, by go_num, hRz', HLE.out, by omega, by rw [HM.out]; exact HS.out, HX7.out, HR7.out, HO6.out, HB7.out, by simp [World.setCell] at hsz6 ⊢; omega⟩
          case measure => simp [intOf]; omega
        ·have qk : decide (k < c) = false := decide_eq_false hk
         have HE := Lib.hid (gp_end HG.out (fun _ => by omega) HKD.out HB2K.out)
         clear x0 x1 x2 x3
         obtain ⟨n, hn⟩ : ∃ n : Nd, n = ⟨(b.toNat : Int), ⟨#[]⟩, L, []⟩ := ⟨_, rfl⟩
         have hnkd : n.kd = b.toNat := by rw [hn]
         have hnd : n.d = ⟨#[]⟩ := by rw [hn]
         have HGN := Lib.hid (show GN S.data.toList n true from by rw [hn]; exact HE.out)
         have HOP : Hid (OwnP w1.heap.size wr (.slice va k vc) n.ps) := Lib.hid (by rw [hn]; exact HO.out)
         have HOE : Hid (OwnE w1.heap.size wr (.slice none 0 0) n.es) := Lib.hid (by rw [hn]; exact entries_own_nil _ _)
         have RF := Lib.hid (rFit_any n (.slice va k vc) (.slice none 0 0) (wr) HOP.out.is HOE.out.is)
         rw [show ndV n (.slice va k vc) (.slice none 0 0) = .agg #[.int .i64 (b.toNat), .string (⟨#[]⟩), .slice va k vc, .slice none 0 0] by unfold ndV; rw [hnkd, hnd]] at RF
         have x0 := HX.out.cell 0; have x1 := HX.out.cell 1; have x2 := HX.out.cell 2; have x3 := HX.out.cell 3
         simp only [List.getElem?_toArray, List.getElem?_cons_zero, List.getElem?_cons_succ] at x0 x1 x2 x3
         have HNK := Lib.hid hnkd; have HND := Lib.hid hnd
         rcases hf : fitN n with _ | _
         ·rw [hf] at RF
          have HRD := Lib.hid (rdd_unfit HGN.out hf)
          clear hf hn hnkd hnd
          go_wp2_with fail
          with_reducible refine RF.out.mono ?_
          rintro e w8 ⟨rfl, hb8⟩
          have HR9 := Lib.hid (HR.out.step hb8)
          have HB9 := Lib.hid (HB.out.trans (hb8.mono HB.out.size))
          clear x0 x1 x2 x3 hb8
          have p0 := HR9.out.cell 0; have p1 := HR9.out.cell 1; have p2 := HR9.out.cell 2; have p3 := HR9.out.cell 3
          have f0 := HR9.out.free 0; have f1 := HR9.out.free 1; have f2 := HR9.out.free 2; have f3 := HR9.out.free 3
          simp only [List.getElem?_toArray, List.getElem?_cons_zero, List.getElem?_cons_succ] at p0 p1 p2 p3
          go_wp2
          have hR4 := row4_row HR9.out (.int .i64 0) (.string ⟨#[]⟩) (.slice none 0 0) (.slice none 0 0)
          have d0 := hR4.cell 0; have d1 := hR4.cell 1; have d2 := hR4.cell 2; have d3 := hR4.cell 3
          simp only [List.getElem?_toArray, List.getElem?_cons_zero, List.getElem?_cons_succ] at d0 d1 d2 d3
          refine bodyPost_ret (v := .tuple #[.agg #[.int .i64 0, .string ⟨#[]⟩, .slice none 0 0, .slice none 0 0], .int .i64 2]) (by simp [results, Tryz.results25, go_sem, d0, d1, d2, d3]) rfl ?_
          exact ⟨zeroNd, 2, HRD.out, _, _, rfl, parts_nil _, entries_nil _, (((HB9.out.setCell (p := ⟨w.heap.size, 0, none⟩) HB0.out _).setCell (p := ⟨w.heap.size, 1, none⟩) HB0.out _).setCell (p := ⟨w.heap.size, 2, none⟩) HB0.out _).setCell (p := ⟨w.heap.size, 3, none⟩) HB0.out _⟩
         ·rw [hf] at RF
          have HFN := Lib.hid hf
          clear hf hn hnkd hnd
          go_wp2_with fail
          with_reducible refine RF.out.mono ?_
          rintro e w8 ⟨rfl, hb8⟩
          have HR8 := Lib.hid (HR.out.step hb8)
          have HX8 := Lib.hid (HX.out.step hb8)
          have HB8 := Lib.hid (HB.out.trans (hb8.mono HB.out.size))
          have HOP8 := Lib.hid (HOP.out.stays hb8); have HOE8 := Lib.hid (HOE.out.stays hb8)
          have RW := Lib.hid (rWriteF_any n (.slice va k vc) (.slice none 0 0) w8 HOP8.out.is HOE8.out.is HFN.out)
          rw [show ndV n (.slice va k vc) (.slice none 0 0) = .agg #[.int .i64 (b.toNat), .string (⟨#[]⟩), .slice va k vc, .slice none 0 0] by unfold ndV; rw [HNK.out, HND.out]] at RW
          rw [wrN_fit HFN.out] at RW
          clear x0 x1 x2 x3
          have x0 := HX8.out.cell 0; have x1 := HX8.out.cell 1; have x2 := HX8.out.cell 2; have x3 := HX8.out.cell 3
          simp only [List.getElem?_toArray, List.getElem?_cons_zero, List.getElem?_cons_succ] at x0 x1 x2 x3
          obtain ⟨Y, hY1, hY2⟩ := ex_str (wrL n)
          rw [← hY1] at RW
          by_cases hys : Y = S
          ·have y1 := beq_true hys
           have y2 : (!(Y.toList == S.toList)) = false := by rw [y1]; rfl
           have HRD : Hid (RdOk S.data.toList n 0) := Lib.hid (.inl ⟨rfl, HFN.out, by rw [← hY2, hys]⟩)
           clear hys hY1 hY2 hb8
           go_wp2_with fail
           with_reducible refine RW.out.mono ?_
           rintro e w9 ⟨rfl, hb9⟩
           have HR9 := Lib.hid (HR8.out.step hb9)
           have HX9 := HX8.out.step hb9
           have HB9 := Lib.hid (HB8.out.trans (hb9.mono HB8.out.size))
           have HOP9 := Lib.hid (HOP8.out.stays hb9); have HOE9 := Lib.hid (HOE8.out.stays hb9)
           clear x0 x1 x2 x3 hb9
           have x0 := HX9.cell 0; have x1 := HX9.cell 1; have x2 := HX9.cell 2; have x3 := HX9.cell 3
           have p0 := HR9.out.cell 0; have p1 := HR9.out.cell 1; have p2 := HR9.out.cell 2; have p3 := HR9.out.cell 3
           have f0 := HR9.out.free 0; have f1 := HR9.out.free 1; have f2 := HR9.out.free 2; have f3 := HR9.out.free 3
           simp only [List.getElem?_toArray, List.getElem?_cons_zero, List.getElem?_cons_succ] at p0 p1 p2 p3 x0 x1 x2 x3
           clear HX9
           go_wp2
           have hR4 := row4_row HR9.out (.int .i64 (b.toNat)) (.string (⟨#[]⟩)) (.slice va k vc) (.slice none 0 0)
           have d0 := hR4.cell 0; have d1 := hR4.cell 1; have d2 := hR4.cell 2; have d3 := hR4.cell 3
           simp only [List.getElem?_toArray, List.getElem?_cons_zero, List.getElem?_cons_succ] at d0 d1 d2 d3
           refine bodyPost_ret (v := .tuple #[.agg #[.int .i64 (b.toNat), .string (⟨#[]⟩), .slice va k vc, .slice none 0 0], .int .i64 0]) (by simp [results, Tryz.results25, go_sem, d0, d1, d2, d3]) rfl ?_
           refine ⟨n, 0, HRD.out, .slice va k vc, .slice none 0 0, by rw [show ndV n (.slice va k vc) (.slice none 0 0) = .agg #[.int .i64 (b.toNat), .string (⟨#[]⟩), .slice va k vc, .slice none 0 0] by unfold ndV; rw [HNK.out, HND.out]], ?_, ?_, (((HB9.out.setCell (p := ⟨w.heap.size, 0, none⟩) HB0.out _).setCell (p := ⟨w.heap.size, 1, none⟩) HB0.out _).setCell (p := ⟨w.heap.size, 2, none⟩) HB0.out _).setCell (p := ⟨w.heap.size, 3, none⟩) HB0.out _⟩
           ·exact ((((HOP9.out.setBelow (a := ⟨w.heap.size, 0, none⟩) HBS.out _).setBelow (a := ⟨w.heap.size, 1, none⟩) HBS.out _).setBelow (a := ⟨w.heap.size, 2, none⟩) HBS.out _).setBelow (a := ⟨w.heap.size, 3, none⟩) HBS.out _).is
           ·exact ((((HOE9.out.setBelow (a := ⟨w.heap.size, 0, none⟩) HBS.out _).setBelow (a := ⟨w.heap.size, 1, none⟩) HBS.out _).setBelow (a := ⟨w.heap.size, 2, none⟩) HBS.out _).setBelow (a := ⟨w.heap.size, 3, none⟩) HBS.out _).is
          ·have y1 := beq_false hys
           have y2 : (!(Y.toList == S.toList)) = true := by rw [y1]; rfl
           have HRD := Lib.hid (rdd_other HGN.out (fun e => hys (str_eq' (by rw [hY2]; exact e))))
           clear hys hY1 hY2 hb8
           go_wp2_with fail
           with_reducible refine RW.out.mono ?_
           rintro e w9 ⟨rfl, hb9⟩
           have HR9 := Lib.hid (HR8.out.step hb9)
           have HB9 := Lib.hid (HB8.out.trans (hb9.mono HB8.out.size))
           clear x0 x1 x2 x3 hb9
           have p0 := HR9.out.cell 0; have p1 := HR9.out.cell 1; have p2 := HR9.out.cell 2; have p3 := HR9.out.cell 3
           have f0 := HR9.out.free 0; have f1 := HR9.out.free 1; have f2 := HR9.out.free 2; have f3 := HR9.out.free 3
           simp only [List.getElem?_toArray, List.getElem?_cons_zero, List.getElem?_cons_succ] at p0 p1 p2 p3
           go_wp2
           have hR4 := row4_row HR9.out (.int .i64 0) (.string ⟨#[]⟩) (.slice none 0 0) (.slice none 0 0)
           have d0 := hR4.cell 0; have d1 := hR4.cell 1; have d2 := hR4.cell 2; have d3 := hR4.cell 3
           simp only [List.getElem?_toArray, List.getElem?_cons_zero, List.getElem?_cons_succ] at d0 d1 d2 d3
           refine bodyPost_ret (v := .tuple #[.agg #[.int .i64 0, .string ⟨#[]⟩, .slice none 0 0, .slice none 0 0], .int .i64 2]) (by simp [results, Tryz.results25, go_sem, d0, d1, d2, d3]) rfl ?_
           exact ⟨zeroNd, 2, HRD.out, _, _, rfl, parts_nil _, entries_nil _, (((HB9.out.setCell (p := ⟨w.heap.size, 0, none⟩) HB0.out _).setCell (p := ⟨w.heap.size, 1, none⟩) HB0.out _).setCell (p := ⟨w.heap.size, 2, none⟩) HB0.out _).setCell (p := ⟨w.heap.size, 3, none⟩) HB0.out _⟩
     ·have q2 : ((b.toNat : Int) == 2) = false := ie_f (by omega)
      have HGS := Lib.hid (ge_start (j := j) h1 h2 hv)
      rw [← HL.out, ← hQl] at HGS
      have HKD : Hid (∀ m, fitN m = true → wrL m = S.data.toList → m.kd = 3 ∧ b.toNat = 3) := Lib.hid (fun m hf h => by
       have := (wr_head hf (h.trans HL.out)).1
       rcases fit_kinds hf with e | e | e <;> omega)
      clear hv h4 hRl hj hQl hQ HTK h1 h2
      go_enter Tryz.func25, Tryz.ntmps25
      go_wp2_with fail
      rw [← HV.out]
      with_reducible refine (T.out _).mono ?_
      rintro e w1 ⟨rfl, hw1⟩
      subst hw1
      go_wp2
      go_loopw [5, 9, 10] (fun s o i wr => ∃ (k : Nat) (v : Value) (L : List En) (R : ByteArray) (ok : Bool), s = .string R ∧ o = .bool ok ∧ i = .int .u64 k ∧ R.size ≤ 1000000 ∧ L.length = k ∧ k ≤ c ∧ GE S.data.toList c k L R.data.toList ok ∧ Row wr (w.heap.size + 1) #[.int .i64 b.toNat, .string ⟨#[]⟩, .slice none 0 0, v] 53 ∧ Row wr w.heap.size #[.int .i64 0, .string ⟨#[]⟩, .slice none 0 0, .slice none 0 0] 53 ∧ OwnE w1.heap.size wr v L ∧ Below w.heap.size w wr ∧ w1.heap.size ≤ wr.heap.size) (fun _ _ i _ => c - (intOf i).toNat)
      case atStart => exact ⟨0, .slice none 0 0, [], Q, true, rfl, rfl, rfl, hQs, rfl, Nat.zero_le _, HGS.out, HXV.out, HRV.out, entries_own_nil _ _, HBV.out, Nat.le_refl _⟩
      case round =>
       obtain ⟨k, v, L, R, ok, rfl, rfl, rfl, hRz, hLk, hkc, hG, hX, hR, hO, hB, hszV⟩ := hrel
       have HG := Lib.hid hG; have HX := Lib.hid hX; have HR := Lib.hid hR; have HO := Lib.hid hO; have HB := Lib.hid hB
       obtain ⟨_, va, vc, hve, _, _⟩ := hO.is
       have HLK := Lib.hid hLk
       rw [hLk] at hve
       subst hve
       have x0 := hX.cell 0; have x1 := hX.cell 1; have x2 := hX.cell 2; have x3 := hX.cell 3
       simp only [List.getElem?_toArray, List.getElem?_cons_zero, List.getElem?_cons_succ] at x0 x1 x2 x3
       have hXlt := hX.lt
       clear hG hX hR hO hB hLk
       cases ok with
       | false =>
        have HE := Lib.hid (ge_end HG.out (fun h => by cases h) HKD.out)
        by_cases hk : k < c
        ·have qk : decide (k < c) = true := decide_eq_true hk
         have HRD := Lib.hid (rdd_bad HE.out)
         have HR9 := HR; have HB9 := HB
         have p0 := HR9.out.cell 0; have p1 := HR9.out.cell 1; have p2 := HR9.out.cell 2; have p3 := HR9.out.cell 3
         have f0 := HR9.out.free 0; have f1 := HR9.out.free 1; have f2 := HR9.out.free 2; have f3 := HR9.out.free 3
         simp only [List.getElem?_toArray, List.getElem?_cons_zero, List.getElem?_cons_succ] at p0 p1 p2 p3
         go_wp2
         have hR4 := row4_row HR9.out (.int .i64 0) (.string ⟨#[]⟩) (.slice none 0 0) (.slice none 0 0)
         have d0 := hR4.cell 0; have d1 := hR4.cell 1; have d2 := hR4.cell 2; have d3 := hR4.cell 3
         simp only [List.getElem?_toArray, List.getElem?_cons_zero, List.getElem?_cons_succ] at d0 d1 d2 d3
         refine bodyPost_ret (v := .tuple #[.agg #[.int .i64 0, .string ⟨#[]⟩, .slice none 0 0, .slice none 0 0], .int .i64 2]) (by simp [results, Tryz.results25, go_sem, d0, d1, d2, d3]) rfl ?_
         exact ⟨zeroNd, 2, HRD.out, _, _, rfl, parts_nil _, entries_nil _, (((HB9.out.setCell (p := ⟨w.heap.size, 0, none⟩) HB0.out _).setCell (p := ⟨w.heap.size, 1, none⟩) HB0.out _).setCell (p := ⟨w.heap.size, 2, none⟩) HB0.out _).setCell (p := ⟨w.heap.size, 3, none⟩) HB0.out _⟩
        ·have qk : decide (k < c) = false := decide_eq_false hk
         have HRD := Lib.hid (rdd_bad HE.out)
         have HR9 := HR; have HB9 := HB
         have p0 := HR9.out.cell 0; have p1 := HR9.out.cell 1; have p2 := HR9.out.cell 2; have p3 := HR9.out.cell 3
         have f0 := HR9.out.free 0; have f1 := HR9.out.free 1; have f2 := HR9.out.free 2; have f3 := HR9.out.free 3
         simp only [List.getElem?_toArray, List.getElem?_cons_zero, List.getElem?_cons_succ] at p0 p1 p2 p3
         go_wp2
         have hR4 := row4_row HR9.out (.int .i64 0) (.string ⟨#[]⟩) (.slice none 0 0) (.slice none 0 0)
         have d0 := hR4.cell 0; have d1 := hR4.cell 1; have d2 := hR4.cell 2; have d3 := hR4.cell 3
         simp only [List.getElem?_toArray, List.getElem?_cons_zero, List.getElem?_cons_succ] at d0 d1 d2 d3
         refine bodyPost_ret (v := .tuple #[.agg #[.int .i64 0, .string ⟨#[]⟩, .slice none 0 0, .slice none 0 0], .int .i64 2]) (by simp [results, Tryz.results25, go_sem, d0, d1, d2, d3]) rfl ?_
         exact ⟨zeroNd, 2, HRD.out, _, _, rfl, parts_nil _, entries_nil _, (((HB9.out.setCell (p := ⟨w.heap.size, 0, none⟩) HB0.out _).setCell (p := ⟨w.heap.size, 1, none⟩) HB0.out _).setCell (p := ⟨w.heap.size, 2, none⟩) HB0.out _).setCell (p := ⟨w.heap.size, 3, none⟩) HB0.out _⟩
       | true =>
        by_cases hk : k < c
        ·have qk : decide (k < c) = true := decide_eq_true hk
         have hw1 : IntKind.u64.wrap ((k : Int) + 1) = (k : Int) + 1 := by rw [IntKind.wrap_u64]; omega
         have P1 := Lib.hid (rentry_any R hRz)
         have hown := fun g (hg : (Value.slice va k vc).ownBlock = some g) => (HO.out.lt g hg).2
         cases hp : dEntry R.data.toList with
         | none =>
          have HS := Lib.hid (fun L' R' => ge_bad (L' := L') (R' := R') HG.out hk hp (fun m hf h => (HKD.out m hf h).1))
          rw [hp] at P1
          simp only [rEntryV] at P1
          clear hp
          go_wp2_with fail
          with_reducible refine (P1.out _).mono ?_
          rintro e w2 ⟨rfl, hb2⟩
          have hb0 := (Below.refl wr.heap.size wr).alloc (Nat.le_refl _) (.cells #[.string ⟨#[]⟩, .int .i64 0, .bool false, .string ⟨#[]⟩] 91)
          have hb3 := below_step hb0 hb2
          have hP2 := (Row.made wr #[.string ⟨#[]⟩, .int .i64 0, .bool false, .string ⟨#[]⟩] 91).step hb2
          have hX2 := HX.out.step hb3
          have HR2 := Lib.hid (HR.out.step hb3)
          have HB2 := Lib.hid (below_step HB.out hb3)
          have HO2 := Lib.hid (HO.out.stays hb3)
          have hsz2 : wr.heap.size < w2.heap.size := hP2.lt
          clear x0 x1 x2 x3 hb0 hb2 hb3
          have x0 := hX2.cell 0; have x1 := hX2.cell 1; have x2 := hX2.cell 2; have x3 := hX2.cell 3
          have y0 := hX2.free 0; have y1 := hX2.free 1; have y2 := hX2.free 2; have y3 := hX2.free 3
          simp only [List.getElem?_toArray, List.getElem?_cons_zero, List.getElem?_cons_succ] at x0 x1 x2 x3
          have c0 := hP2.cell 0; have c1 := hP2.cell 1; have c2 := hP2.cell 2; have c3 := hP2.cell 3; have f0 := hP2.free 0; have f1 := hP2.free 1; have f2 := hP2.free 2; have f3 := hP2.free 3
          simp only [List.getElem?_toArray, List.getElem?_cons_zero, List.getElem?_cons_succ] at c0 c1 c2 c3
          have HO5 : Hid (OwnE w1.heap.size ((((w2.setCell ⟨wr.heap.size, 0, none⟩ (.string ⟨#[]⟩)).setCell ⟨wr.heap.size, 1, none⟩ (.int .i64 0)).setCell ⟨wr.heap.size, 2, none⟩ (.bool false)).setCell ⟨wr.heap.size, 3, none⟩ (.string ⟨#[]⟩)) (.slice va k vc) L) := Lib.hid ((((HO2.out.setNe (b := wr.heap.size) (i := 0) hown (.string ⟨#[]⟩)).setNe (b := wr.heap.size) (i := 1) hown (.int .i64 0)).setNe (b := wr.heap.size) (i := 2) hown (.bool false)).setNe (b := wr.heap.size) (i := 3) hown (.string ⟨#[]⟩))
          have hX5 := ((((hX2.other ⟨wr.heap.size, 0, none⟩ (.string ⟨#[]⟩) (show w.heap.size + 1 ≠ wr.heap.size by omega)).other ⟨wr.heap.size, 1, none⟩ (.int .i64 0) (show w.heap.size + 1 ≠ wr.heap.size by omega)).other ⟨wr.heap.size, 2, none⟩ (.bool false) (show w.heap.size + 1 ≠ wr.heap.size by omega)).other ⟨wr.heap.size, 3, none⟩ (.string ⟨#[]⟩) (show w.heap.size + 1 ≠ wr.heap.size by omega))
          have HR5 := Lib.hid ((((HR2.out.other ⟨wr.heap.size, 0, none⟩ (.string ⟨#[]⟩) (show w.heap.size ≠ wr.heap.size by omega)).other ⟨wr.heap.size, 1, none⟩ (.int .i64 0) (show w.heap.size ≠ wr.heap.size by omega)).other ⟨wr.heap.size, 2, none⟩ (.bool false) (show w.heap.size ≠ wr.heap.size by omega)).other ⟨wr.heap.size, 3, none⟩ (.string ⟨#[]⟩) (show w.heap.size ≠ wr.heap.size by omega))
          have HB5 := Lib.hid ((((HB2.out.setCell (p := ⟨wr.heap.size, 0, none⟩) (by show w.heap.size ≤ wr.heap.size; omega) (.string ⟨#[]⟩)).setCell (p := ⟨wr.heap.size, 1, none⟩) (by show w.heap.size ≤ wr.heap.size; omega) (.int .i64 0)).setCell (p := ⟨wr.heap.size, 2, none⟩) (by show w.heap.size ≤ wr.heap.size; omega) (.bool false)).setCell (p := ⟨wr.heap.size, 3, none⟩) (by show w.heap.size ≤ wr.heap.size; omega) (.string ⟨#[]⟩))
          have hP5 := row4_row hP2 (.string ⟨#[]⟩) (.int .i64 0) (.bool false) (.string ⟨#[]⟩)
          have s0 := hX5.cell 0; have s1 := hX5.cell 1; have s2 := hX5.cell 2; have s3 := hX5.cell 3
          simp only [List.getElem?_toArray, List.getElem?_cons_zero, List.getElem?_cons_succ] at s0 s1 s2 s3
          have t0 := hP5.cell 0; have t1 := hP5.cell 1; have t2 := hP5.cell 2; have t3 := hP5.cell 3
          simp only [List.getElem?_toArray, List.getElem?_cons_zero, List.getElem?_cons_succ] at t0 t1 t2 t3
          have HX5 := Lib.hid hX5
          have hw5 : w1.heap.size ≤ ((((w2.setCell ⟨wr.heap.size, 0, none⟩ (.string ⟨#[]⟩)).setCell ⟨wr.heap.size, 1, none⟩ (.int .i64 0)).setCell ⟨wr.heap.size, 2, none⟩ (.bool false)).setCell ⟨wr.heap.size, 3, none⟩ (.string ⟨#[]⟩)).heap.size := by simp [World.setCell]; omega
          have HZ5 : Hid (w2.heap.size = ((((w2.setCell ⟨wr.heap.size, 0, none⟩ (.string ⟨#[]⟩)).setCell ⟨wr.heap.size, 1, none⟩ (.int .i64 0)).setCell ⟨wr.heap.size, 2, none⟩ (.bool false)).setCell ⟨wr.heap.size, 3, none⟩ (.string ⟨#[]⟩)).heap.size) := Lib.hid (by simp [World.setCell])
          have hLl : L.length ≤ 1000000 := by have := HLK.out; omega
          clear hX5 hP5 hX2 hP2
          go_wp2_with (at_builtin; refine wpList_append_entries2 (y := (⟨⟨#[]⟩, 0, false, ⟨#[]⟩⟩ : En)) rfl _ _ rfl HO5.out hw5 HZ5.out rfl rfl hLl ?_)
          intro v' w6 hown6 hg6
          have hX6 := row_grownE HX5.out HO5.out hg6 (show w.heap.size + 1 < w1.heap.size by omega)
          have HR6 := Lib.hid (row_grownE HR5.out HO5.out hg6 (show w.heap.size < w1.heap.size by omega))
          have HB6 := Lib.hid (HB5.out.grown hg6 (by omega) (fun g hg => by have := (HO5.out.lt g hg).1; omega))
          have hsz6 := hg6.size
          obtain ⟨_, va2, vc2, hve, _, _⟩ := hown6.is
          subst hve
          have HO6 := Lib.hid (hown6.setBelow (a := ⟨w.heap.size + 1, 3, none⟩) (show w.heap.size + 1 < w1.heap.size by omega) (.slice va2 (L ++ [(⟨⟨#[]⟩, 0, false, ⟨#[]⟩⟩ : En)]).length vc2))
          have z0 := hX6.cell 0; have z1 := hX6.cell 1; have z2 := hX6.cell 2; have z3 := hX6.cell 3
          have n0 := hX6.free 0; have n1 := hX6.free 1; have n2 := hX6.free 2; have n3 := hX6.free 3
          simp only [List.getElem?_toArray, List.getElem?_cons_zero, List.getElem?_cons_succ] at z0 z1 z2 z3
          have HX7 := Lib.hid (hX6.set 3 (.slice va2 (L ++ [(⟨⟨#[]⟩, 0, false, ⟨#[]⟩⟩ : En)]).length vc2))
          have HR7 := Lib.hid (HR6.out.other ⟨w.heap.size + 1, 3, none⟩ (.slice va2 (L ++ [(⟨⟨#[]⟩, 0, false, ⟨#[]⟩⟩ : En)]).length vc2) (show w.heap.size ≠ w.heap.size + 1 by omega))
          have HB7 := Lib.hid (HB6.out.setCell (p := ⟨w.heap.size + 1, 3, none⟩) (by simp) (.slice va2 (L ++ [(⟨⟨#[]⟩, 0, false, ⟨#[]⟩⟩ : En)]).length vc2))
          have hlen : (L ++ [(⟨⟨#[]⟩, 0, false, ⟨#[]⟩⟩ : En)]).length = k + 1 := by rw [List.length_append, HLK.out]; rfl
          obtain ⟨M, hM⟩ : ∃ M, M = L ++ [(⟨⟨#[]⟩, 0, false, ⟨#[]⟩⟩ : En)] := ⟨_, rfl⟩
          rw [← hM] at HO6 HX7 HR7 HB7 hlen ⊢
          have HM := Lib.hid hM
          have HLE := Lib.hid hlen
          clear hX6 hown6 hg6 x0 x1 x2 x3 y0 y1 y2 y3 s0 s1 s2 s3 c0 f0 t0 c1 f1 t1 c2 f2 t2 c3 f3 t3 hM hlen hown
          go_wp2
          go_roundw
          case rel => exact ⟨k + 1, .slice va2 M.length vc2, M, ⟨#[]⟩, false, rfl, rfl, by go_num, by decide, HLE.out, by omega, HS.out _ _, HX7.out, HR7.out, HO6.out, HB7.out, by simp [World.setCell] at hsz6 ⊢; omega⟩
          case measure => simp [intOf]; omega
         | some y =>
          obtain ⟨p, R', qo⟩ := y
          have HS := Lib.hid (ge_step HG.out hk hp (fun m hf h => (HKD.out m hf h).1))
          have hRl := dEntry_rest hp
          rw [← Lib.size_eq] at hRl
          have hRz' : (⟨R'.toArray⟩ : ByteArray).size ≤ 1000000 := by rw [Lib.size_eq]; show R'.length ≤ _; omega
          rw [hp] at P1
          simp only [rEntryV] at P1
          clear hp hRl
          go_wp2_with fail
          with_reducible refine (P1.out _).mono ?_
          rintro e w2 ⟨rfl, hb2⟩
          have hb0 := (Below.refl wr.heap.size wr).alloc (Nat.le_refl _) (.cells #[.string ⟨#[]⟩, .int .i64 0, .bool false, .string ⟨#[]⟩] 91)
          have hb3 := below_step hb0 hb2
          have hP2 := (Row.made wr #[.string ⟨#[]⟩, .int .i64 0, .bool false, .string ⟨#[]⟩] 91).step hb2
          have hX2 := HX.out.step hb3
          have HR2 := Lib.hid (HR.out.step hb3)
          have HB2 := Lib.hid (below_step HB.out hb3)
          have HO2 := Lib.hid (HO.out.stays hb3)
          have hsz2 : wr.heap.size < w2.heap.size := hP2.lt
          clear x0 x1 x2 x3 hb0 hb2 hb3
          have x0 := hX2.cell 0; have x1 := hX2.cell 1; have x2 := hX2.cell 2; have x3 := hX2.cell 3
          have y0 := hX2.free 0; have y1 := hX2.free 1; have y2 := hX2.free 2; have y3 := hX2.free 3
          simp only [List.getElem?_toArray, List.getElem?_cons_zero, List.getElem?_cons_succ] at x0 x1 x2 x3
          have c0 := hP2.cell 0; have c1 := hP2.cell 1; have c2 := hP2.cell 2; have c3 := hP2.cell 3; have f0 := hP2.free 0; have f1 := hP2.free 1; have f2 := hP2.free 2; have f3 := hP2.free 3
          simp only [List.getElem?_toArray, List.getElem?_cons_zero, List.getElem?_cons_succ] at c0 c1 c2 c3
          have HO5 : Hid (OwnE w1.heap.size ((((w2.setCell ⟨wr.heap.size, 0, none⟩ (.string p.m)).setCell ⟨wr.heap.size, 1, none⟩ (.int .i64 p.kd)).setCell ⟨wr.heap.size, 2, none⟩ (.bool p.x)).setCell ⟨wr.heap.size, 3, none⟩ (.string p.k)) (.slice va k vc) L) := Lib.hid ((((HO2.out.setNe (b := wr.heap.size) (i := 0) hown (.string p.m)).setNe (b := wr.heap.size) (i := 1) hown (.int .i64 p.kd)).setNe (b := wr.heap.size) (i := 2) hown (.bool p.x)).setNe (b := wr.heap.size) (i := 3) hown (.string p.k))
          have hX5 := ((((hX2.other ⟨wr.heap.size, 0, none⟩ (.string p.m) (show w.heap.size + 1 ≠ wr.heap.size by omega)).other ⟨wr.heap.size, 1, none⟩ (.int .i64 p.kd) (show w.heap.size + 1 ≠ wr.heap.size by omega)).other ⟨wr.heap.size, 2, none⟩ (.bool p.x) (show w.heap.size + 1 ≠ wr.heap.size by omega)).other ⟨wr.heap.size, 3, none⟩ (.string p.k) (show w.heap.size + 1 ≠ wr.heap.size by omega))
          have HR5 := Lib.hid ((((HR2.out.other ⟨wr.heap.size, 0, none⟩ (.string p.m) (show w.heap.size ≠ wr.heap.size by omega)).other ⟨wr.heap.size, 1, none⟩ (.int .i64 p.kd) (show w.heap.size ≠ wr.heap.size by omega)).other ⟨wr.heap.size, 2, none⟩ (.bool p.x) (show w.heap.size ≠ wr.heap.size by omega)).other ⟨wr.heap.size, 3, none⟩ (.string p.k) (show w.heap.size ≠ wr.heap.size by omega))
          have HB5 := Lib.hid ((((HB2.out.setCell (p := ⟨wr.heap.size, 0, none⟩) (by show w.heap.size ≤ wr.heap.size; omega) (.string p.m)).setCell (p := ⟨wr.heap.size, 1, none⟩) (by show w.heap.size ≤ wr.heap.size; omega) (.int .i64 p.kd)).setCell (p := ⟨wr.heap.size, 2, none⟩) (by show w.heap.size ≤ wr.heap.size; omega) (.bool p.x)).setCell (p := ⟨wr.heap.size, 3, none⟩) (by show w.heap.size ≤ wr.heap.size; omega) (.string p.k))
          have hP5 := row4_row hP2 (.string p.m) (.int .i64 p.kd) (.bool p.x) (.string p.k)
          have s0 := hX5.cell 0; have s1 := hX5.cell 1; have s2 := hX5.cell 2; have s3 := hX5.cell 3
          simp only [List.getElem?_toArray, List.getElem?_cons_zero, List.getElem?_cons_succ] at s0 s1 s2 s3
          have t0 := hP5.cell 0; have t1 := hP5.cell 1; have t2 := hP5.cell 2; have t3 := hP5.cell 3
          simp only [List.getElem?_toArray, List.getElem?_cons_zero, List.getElem?_cons_succ] at t0 t1 t2 t3
          have HX5 := Lib.hid hX5
          have hw5 : w1.heap.size ≤ ((((w2.setCell ⟨wr.heap.size, 0, none⟩ (.string p.m)).setCell ⟨wr.heap.size, 1, none⟩ (.int .i64 p.kd)).setCell ⟨wr.heap.size, 2, none⟩ (.bool p.x)).setCell ⟨wr.heap.size, 3, none⟩ (.string p.k)).heap.size := by simp [World.setCell]; omega
          have HZ5 : Hid (w2.heap.size = ((((w2.setCell ⟨wr.heap.size, 0, none⟩ (.string p.m)).setCell ⟨wr.heap.size, 1, none⟩ (.int .i64 p.kd)).setCell ⟨wr.heap.size, 2, none⟩ (.bool p.x)).setCell ⟨wr.heap.size, 3, none⟩ (.string p.k)).heap.size) := Lib.hid (by simp [World.setCell])
          have hLl : L.length ≤ 1000000 := by have := HLK.out; omega
          clear hX5 hP5 hX2 hP2
          go_wp2_with (at_builtin; refine wpList_append_entries2 (y := p) rfl _ _ rfl HO5.out hw5 HZ5.out rfl rfl hLl ?_)
          intro v' w6 hown6 hg6
          have hX6 := row_grownE HX5.out HO5.out hg6 (show w.heap.size + 1 < w1.heap.size by omega)
          have HR6 := Lib.hid (row_grownE HR5.out HO5.out hg6 (show w.heap.size < w1.heap.size by omega))
          have HB6 := Lib.hid (HB5.out.grown hg6 (by omega) (fun g hg => by have := (HO5.out.lt g hg).1; omega))
          have hsz6 := hg6.size
          obtain ⟨_, va2, vc2, hve, _, _⟩ := hown6.is
          subst hve
          have HO6 := Lib.hid (hown6.setBelow (a := ⟨w.heap.size + 1, 3, none⟩) (show w.heap.size + 1 < w1.heap.size by omega) (.slice va2 (L ++ [p]).length vc2))
          have z0 := hX6.cell 0; have z1 := hX6.cell 1; have z2 := hX6.cell 2; have z3 := hX6.cell 3
          have n0 := hX6.free 0; have n1 := hX6.free 1; have n2 := hX6.free 2; have n3 := hX6.free 3
          simp only [List.getElem?_toArray, List.getElem?_cons_zero, List.getElem?_cons_succ] at z0 z1 z2 z3
          have HX7 := Lib.hid (hX6.set 3 (.slice va2 (L ++ [p]).length vc2))
          have HR7 := Lib.hid (HR6.out.other ⟨w.heap.size + 1, 3, none⟩ (.slice va2 (L ++ [p]).length vc2) (show w.heap.size ≠ w.heap.size + 1 by omega))
          have HB7 := Lib.hid (HB6.out.setCell (p := ⟨w.heap.size + 1, 3, none⟩) (by simp) (.slice va2 (L ++ [p]).length vc2))
          have hlen : (L ++ [p]).length = k + 1 := by rw [List.length_append, HLK.out]; rfl
          obtain ⟨M, hM⟩ : ∃ M, M = L ++ [p] := ⟨_, rfl⟩
          rw [← hM] at HO6 HX7 HR7 HB7 hlen ⊢
          have HM := Lib.hid hM
          have HLE := Lib.hid hlen
          clear hX6 hown6 hg6 x0 x1 x2 x3 y0 y1 y2 y3 s0 s1 s2 s3 c0 f0 t0 c1 f1 t1 c2 f2 t2 c3 f3 t3 hM hlen hown
          go_wp2
          go_roundw
          case rel => exact ⟨k + 1, .slice va2 M.length vc2, M, ⟨R'.toArray⟩, qo, rfl, rfl, by go_num, hRz', HLE.out, by omega, by rw [HM.out]; exact HS.out, HX7.out, HR7.out, HO6.out, HB7.out, by simp [World.setCell] at hsz6 ⊢; omega⟩
          case measure => simp [intOf]; omega
        ·have qk : decide (k < c) = false := decide_eq_false hk
         have HE := Lib.hid (ge_end HG.out (fun _ => by omega) HKD.out)
         clear x0 x1 x2 x3
         obtain ⟨n, hn⟩ : ∃ n : Nd, n = ⟨(b.toNat : Int), ⟨#[]⟩, [], L⟩ := ⟨_, rfl⟩
         have hnkd : n.kd = b.toNat := by rw [hn]
         have hnd : n.d = ⟨#[]⟩ := by rw [hn]
         have HGN := Lib.hid (show GN S.data.toList n true from by rw [hn]; exact HE.out)
         have HOP : Hid (OwnP w1.heap.size wr (.slice none 0 0) n.ps) := Lib.hid (by rw [hn]; exact parts_own_nil _ _)
         have HOE : Hid (OwnE w1.heap.size wr (.slice va k vc) n.es) := Lib.hid (by rw [hn]; exact HO.out)
         have RF := Lib.hid (rFit_any n (.slice none 0 0) (.slice va k vc) (wr) HOP.out.is HOE.out.is)
         rw [show ndV n (.slice none 0 0) (.slice va k vc) = .agg #[.int .i64 (b.toNat), .string (⟨#[]⟩), .slice none 0 0, .slice va k vc] by unfold ndV; rw [hnkd, hnd]] at RF
         have x0 := HX.out.cell 0; have x1 := HX.out.cell 1; have x2 := HX.out.cell 2; have x3 := HX.out.cell 3
         simp only [List.getElem?_toArray, List.getElem?_cons_zero, List.getElem?_cons_succ] at x0 x1 x2 x3
         have HNK := Lib.hid hnkd; have HND := Lib.hid hnd
         rcases hf : fitN n with _ | _
         ·rw [hf] at RF
          have HRD := Lib.hid (rdd_unfit HGN.out hf)
          clear hf hn hnkd hnd
          go_wp2_with fail
          with_reducible refine RF.out.mono ?_
          rintro e w8 ⟨rfl, hb8⟩
          have HR9 := Lib.hid (HR.out.step hb8)
          have HB9 := Lib.hid (HB.out.trans (hb8.mono HB.out.size))
          clear x0 x1 x2 x3 hb8
          have p0 := HR9.out.cell 0; have p1 := HR9.out.cell 1; have p2 := HR9.out.cell 2; have p3 := HR9.out.cell 3
          have f0 := HR9.out.free 0; have f1 := HR9.out.free 1; have f2 := HR9.out.free 2; have f3 := HR9.out.free 3
          simp only [List.getElem?_toArray, List.getElem?_cons_zero, List.getElem?_cons_succ] at p0 p1 p2 p3
          go_wp2
          have hR4 := row4_row HR9.out (.int .i64 0) (.string ⟨#[]⟩) (.slice none 0 0) (.slice none 0 0)
          have d0 := hR4.cell 0; have d1 := hR4.cell 1; have d2 := hR4.cell 2; have d3 := hR4.cell 3
          simp only [List.getElem?_toArray, List.getElem?_cons_zero, List.getElem?_cons_succ] at d0 d1 d2 d3
          refine bodyPost_ret (v := .tuple #[.agg #[.int .i64 0, .string ⟨#[]⟩, .slice none 0 0, .slice none 0 0], .int .i64 2]) (by simp [results, Tryz.results25, go_sem, d0, d1, d2, d3]) rfl ?_
          exact ⟨zeroNd, 2, HRD.out, _, _, rfl, parts_nil _, entries_nil _, (((HB9.out.setCell (p := ⟨w.heap.size, 0, none⟩) HB0.out _).setCell (p := ⟨w.heap.size, 1, none⟩) HB0.out _).setCell (p := ⟨w.heap.size, 2, none⟩) HB0.out _).setCell (p := ⟨w.heap.size, 3, none⟩) HB0.out _⟩
         ·rw [hf] at RF
          have HFN := Lib.hid hf
          clear hf hn hnkd hnd
          go_wp2_with fail
          with_reducible refine RF.out.mono ?_
          rintro e w8 ⟨rfl, hb8⟩
          have HR8 := Lib.hid (HR.out.step hb8)
          have HX8 := Lib.hid (HX.out.step hb8)
          have HB8 := Lib.hid (HB.out.trans (hb8.mono HB.out.size))
          have HOP8 := Lib.hid (HOP.out.stays hb8); have HOE8 := Lib.hid (HOE.out.stays hb8)
          have RW := Lib.hid (rWriteF_any n (.slice none 0 0) (.slice va k vc) w8 HOP8.out.is HOE8.out.is HFN.out)
          rw [show ndV n (.slice none 0 0) (.slice va k vc) = .agg #[.int .i64 (b.toNat), .string (⟨#[]⟩), .slice none 0 0, .slice va k vc] by unfold ndV; rw [HNK.out, HND.out]] at RW
          rw [wrN_fit HFN.out] at RW
          clear x0 x1 x2 x3
          have x0 := HX8.out.cell 0; have x1 := HX8.out.cell 1; have x2 := HX8.out.cell 2; have x3 := HX8.out.cell 3
          simp only [List.getElem?_toArray, List.getElem?_cons_zero, List.getElem?_cons_succ] at x0 x1 x2 x3
          obtain ⟨Y, hY1, hY2⟩ := ex_str (wrL n)
          rw [← hY1] at RW
          by_cases hys : Y = S
          ·have y1 := beq_true hys
           have y2 : (!(Y.toList == S.toList)) = false := by rw [y1]; rfl
           have HRD : Hid (RdOk S.data.toList n 0) := Lib.hid (.inl ⟨rfl, HFN.out, by rw [← hY2, hys]⟩)
           clear hys hY1 hY2 hb8
           go_wp2_with fail
           with_reducible refine RW.out.mono ?_
           rintro e w9 ⟨rfl, hb9⟩
           have HR9 := Lib.hid (HR8.out.step hb9)
           have HX9 := HX8.out.step hb9
           have HB9 := Lib.hid (HB8.out.trans (hb9.mono HB8.out.size))
           have HOP9 := Lib.hid (HOP8.out.stays hb9); have HOE9 := Lib.hid (HOE8.out.stays hb9)
           clear x0 x1 x2 x3 hb9
           have x0 := HX9.cell 0; have x1 := HX9.cell 1; have x2 := HX9.cell 2; have x3 := HX9.cell 3
           have p0 := HR9.out.cell 0; have p1 := HR9.out.cell 1; have p2 := HR9.out.cell 2; have p3 := HR9.out.cell 3
           have f0 := HR9.out.free 0; have f1 := HR9.out.free 1; have f2 := HR9.out.free 2; have f3 := HR9.out.free 3
           simp only [List.getElem?_toArray, List.getElem?_cons_zero, List.getElem?_cons_succ] at p0 p1 p2 p3 x0 x1 x2 x3
           clear HX9
           go_wp2
           have hR4 := row4_row HR9.out (.int .i64 (b.toNat)) (.string (⟨#[]⟩)) (.slice none 0 0) (.slice va k vc)
           have d0 := hR4.cell 0; have d1 := hR4.cell 1; have d2 := hR4.cell 2; have d3 := hR4.cell 3
           simp only [List.getElem?_toArray, List.getElem?_cons_zero, List.getElem?_cons_succ] at d0 d1 d2 d3
           refine bodyPost_ret (v := .tuple #[.agg #[.int .i64 (b.toNat), .string (⟨#[]⟩), .slice none 0 0, .slice va k vc], .int .i64 0]) (by simp [results, Tryz.results25, go_sem, d0, d1, d2, d3]) rfl ?_
           refine ⟨n, 0, HRD.out, .slice none 0 0, .slice va k vc, by rw [show ndV n (.slice none 0 0) (.slice va k vc) = .agg #[.int .i64 (b.toNat), .string (⟨#[]⟩), .slice none 0 0, .slice va k vc] by unfold ndV; rw [HNK.out, HND.out]], ?_, ?_, (((HB9.out.setCell (p := ⟨w.heap.size, 0, none⟩) HB0.out _).setCell (p := ⟨w.heap.size, 1, none⟩) HB0.out _).setCell (p := ⟨w.heap.size, 2, none⟩) HB0.out _).setCell (p := ⟨w.heap.size, 3, none⟩) HB0.out _⟩
           ·exact ((((HOP9.out.setBelow (a := ⟨w.heap.size, 0, none⟩) HBS.out _).setBelow (a := ⟨w.heap.size, 1, none⟩) HBS.out _).setBelow (a := ⟨w.heap.size, 2, none⟩) HBS.out _).setBelow (a := ⟨w.heap.size, 3, none⟩) HBS.out _).is
           ·exact ((((HOE9.out.setBelow (a := ⟨w.heap.size, 0, none⟩) HBS.out _).setBelow (a := ⟨w.heap.size, 1, none⟩) HBS.out _).setBelow (a := ⟨w.heap.size, 2, none⟩) HBS.out _).setBelow (a := ⟨w.heap.size, 3, none⟩) HBS.out _).is
          ·have y1 := beq_false hys
           have y2 : (!(Y.toList == S.toList)) = true := by rw [y1]; rfl
           have HRD := Lib.hid (rdd_other HGN.out (fun e => hys (str_eq' (by rw [hY2]; exact e))))
           clear hys hY1 hY2 hb8
           go_wp2_with fail
           with_reducible refine RW.out.mono ?_
           rintro e w9 ⟨rfl, hb9⟩
           have HR9 := Lib.hid (HR8.out.step hb9)
           have HB9 := Lib.hid (HB8.out.trans (hb9.mono HB8.out.size))
           clear x0 x1 x2 x3 hb9
           have p0 := HR9.out.cell 0; have p1 := HR9.out.cell 1; have p2 := HR9.out.cell 2; have p3 := HR9.out.cell 3
           have f0 := HR9.out.free 0; have f1 := HR9.out.free 1; have f2 := HR9.out.free 2; have f3 := HR9.out.free 3
           simp only [List.getElem?_toArray, List.getElem?_cons_zero, List.getElem?_cons_succ] at p0 p1 p2 p3
           go_wp2
           have hR4 := row4_row HR9.out (.int .i64 0) (.string ⟨#[]⟩) (.slice none 0 0) (.slice none 0 0)
           have d0 := hR4.cell 0; have d1 := hR4.cell 1; have d2 := hR4.cell 2; have d3 := hR4.cell 3
           simp only [List.getElem?_toArray, List.getElem?_cons_zero, List.getElem?_cons_succ] at d0 d1 d2 d3
           refine bodyPost_ret (v := .tuple #[.agg #[.int .i64 0, .string ⟨#[]⟩, .slice none 0 0, .slice none 0 0], .int .i64 2]) (by simp [results, Tryz.results25, go_sem, d0, d1, d2, d3]) rfl ?_
           exact ⟨zeroNd, 2, HRD.out, _, _, rfl, parts_nil _, entries_nil _, (((HB9.out.setCell (p := ⟨w.heap.size, 0, none⟩) HB0.out _).setCell (p := ⟨w.heap.size, 1, none⟩) HB0.out _).setCell (p := ⟨w.heap.size, 2, none⟩) HB0.out _).setCell (p := ⟨w.heap.size, 3, none⟩) HB0.out _⟩
   ·have HRD : Hid (RdOk S.data.toList zeroNd 2) := Lib.hid (.inr ⟨rfl, rfl, fun m hm e => hx (HTK.out m hm (e.trans HL.out)).1⟩)
    have q4 : ((x : Int) != 0) = true := in_t (by omega)
    have HR9 := HRV; have HB9 := HBV
    clear hv hx h1 hRl HTK
    go_enter Tryz.func25, Tryz.ntmps25
    go_wp2_with fail
    rw [← HV.out]
    with_reducible refine (T.out _).mono ?_
    rintro e w1 ⟨rfl, hw1⟩
    subst hw1
    have p0 := HR9.out.cell 0; have p1 := HR9.out.cell 1; have p2 := HR9.out.cell 2; have p3 := HR9.out.cell 3
    have f0 := HR9.out.free 0; have f1 := HR9.out.free 1; have f2 := HR9.out.free 2; have f3 := HR9.out.free 3
    simp only [List.getElem?_toArray, List.getElem?_cons_zero, List.getElem?_cons_succ] at p0 p1 p2 p3
    go_wp2
    have hR4 := row4_row HR9.out (.int .i64 0) (.string ⟨#[]⟩) (.slice none 0 0) (.slice none 0 0)
    have d0 := hR4.cell 0; have d1 := hR4.cell 1; have d2 := hR4.cell 2; have d3 := hR4.cell 3
    simp only [List.getElem?_toArray, List.getElem?_cons_zero, List.getElem?_cons_succ] at d0 d1 d2 d3
    refine bodyPost_ret (v := .tuple #[.agg #[.int .i64 0, .string ⟨#[]⟩, .slice none 0 0, .slice none 0 0], .int .i64 2]) (by simp [results, Tryz.results25, go_sem, d0, d1, d2, d3]) rfl ?_
    exact ⟨zeroNd, 2, HRD.out, _, _, rfl, parts_nil _, entries_nil _, (((HB9.out.setCell (p := ⟨w.heap.size, 0, none⟩) HB0.out _).setCell (p := ⟨w.heap.size, 1, none⟩) HB0.out _).setCell (p := ⟨w.heap.size, 2, none⟩) HB0.out _).setCell (p := ⟨w.heap.size, 3, none⟩) HB0.out _⟩
structure HeldM (W0 : World) (n : Nat) (w : World) : Prop where
 below : Below W0.heap.size W0 w
 size : n ≤ w.heap.size
theorem HeldM.on {W0 w w' : World} {n : Nat} (h : HeldM W0 n w) (hb : Below w.heap.size w w') : HeldM W0 n w' := ⟨below_step h.below hb, Nat.le_trans h.size hb.size⟩
def OnePt (w : World) (v : Value) (x : Pt) : Prop := ∃ A, v = .slice (some ⟨A, 0, none⟩) 1 1 ∧ w.heap[A]? = some (.cells #[.string x.k, .int .i64 x.n] 87 (0, 0))
theorem OnePt.stays {w w' : World} {v : Value} {x : Pt} (h : OnePt w v x) (hb : Below w.heap.size w w') : OnePt w' v x := by
 obtain ⟨A, h1, h2⟩ := h
 exact ⟨A, h1, (hb.block A (Array.getElem?_eq_some_iff.1 h2).1).trans h2⟩
theorem onePt_new (w : World) (x : Pt) : OnePt (w.alloc (.cells #[.string x.k, .int .i64 x.n] 87)) (.slice (some ⟨w.heap.size, 0, none⟩) 1 1) x := ⟨_, rfl, heap_alloc_new w _⟩
theorem wp_build_part {o : Oper} {a : Act} {K : Act → World → Prop} {Q : Exit → Act → World → Prop} {w : World} (p : Nat) (ho : o.op = .buildSlice 50 1 #[(0, .tmp p)]) {x : Pt}
  (hx : slot a p = .agg #[.string x.k, .int .i64 x.n]) (hk : K (a.put o.dst (.slice (some ⟨w.heap.size, 0, none⟩) 1 1)) (w.alloc (.cells #[.string x.k, .int .i64 x.n] 87))) : o.wp Tryz.prog a w K Q := by
 refine wp_value (v := .slice (some ⟨w.heap.size, 0, none⟩) 1 1) (w' := w.alloc (.cells #[.string x.k, .int .i64 x.n] 87)) ?_ hk
 have f := slot_at hx
 unfold execOp
 rw [ho]
 go_simp
theorem wp_append_one_part {o : Oper} {a : Act} {B : Nat} {w : World} {K : Act → World → Prop} {Q : Exit → Act → World → Prop} (s x : Nat)
  (ho : o.op = .call { callee := .builtin .append, args := #[.tmp s, .tmp x], argTypes := #[50, 50] })
  {v : Value} {M : List Pt} {y : Pt} (hown : OwnP B w v M) (hBs : B ≤ w.heap.size) (hs : a.eval (.tmp s) = v) (hx : OnePt w (slot a x) y) (hlen : M.length ≤ 1000000)
  (h : ∀ v' w', OwnP B w' v' (M ++ [y]) → w.grownBy w' v.ownBlock → K (a.put o.dst v') w') : o.wp Tryz.prog a w K Q := by
 obtain ⟨i0, hi, hz0, hz1, hz2⟩ := info_parts infoPart
 obtain ⟨A, hx1, hx2⟩ := hx
 have hr : Row w A #[.string y.k, .int .i64 y.n] 87 := hx2
 refine wp_append_own w (.tmp s) (.tmp x) 50 ho B 87 i0 (ptV zeroPt) 2 24 Tryz.underlying50 hi hz0 hz1 hz2 rfl (by decide) v M.length (ptCells M) hs hown ⟨A, 0, none⟩ 1 1 (ptC y) (slotE hx1) rfl ?_ ?_ ?_ ?_ hBs ?_
 ·intro j u hj
  have := hr.cell j
  rw [add_plain', Nat.zero_add, this]
  simpa using hj
 ·intro u hu; simp at hu; rcases hu with rfl | rfl <;> rfl
 ·unfold maxLen; omega
 ·omega
 ·intro v' w' hown' hg _
  refine h v' w' ?_ hg
  unfold OwnP
  rw [List.length_append, ptCells_app]
  have : ptCells [y] = ptC y := List.append_nil _
  rw [this]; exact hown'
def flR (W0 : World) (bn : Nat) (vp : Value) (i : Nat) (w w' : World) : Prop :=
 if i = 10 then w.grownBy w' vp.ownBlock ∧ ∀ g, vp.ownBlock = some g → W0.heap.size ≤ g ∧ ∃ xs, Row w g xs 87
 else ∃ u a n c, Row w bn #[.int .i64 2, .string ⟨#[]⟩, .slice a n c, .slice none 0 0] 53 ∧ W0.heap.size ≤ bn ∧ w' = w.setCell ⟨bn, 2, none⟩ u
theorem flR_app {W0 : World} {bn : Nat} {vp : Value} {w w' : World} (h : flR W0 bn vp 10 w w') : w.grownBy w' vp.ownBlock := by unfold flR at h; rw [if_pos rfl] at h; exact h.1
theorem flR_app' {W0 w1 : World} {bn : Nat} {vp : Value} {Lp : List Pt} {w w' : World} (h : w.grownBy w' vp.ownBlock) (ho : OwnP w1.heap.size w vp Lp) (hb : bn < w1.heap.size ∧ W0.heap.size ≤ bn) : flR W0 bn vp 10 w w' := by
 unfold flR; rw [if_pos rfl]
 exact ⟨h, fun g hg => ⟨by have := (World.ownsRow.lt ho g hg).1; omega, ho.row hg⟩⟩
theorem flR_set {W0 : World} {bn : Nat} {vp : Value} {w w' : World} (h : flR W0 bn vp 12 w w') : ∃ u a n c, Row w bn #[.int .i64 2, .string ⟨#[]⟩, .slice a n c, .slice none 0 0] 53 ∧ W0.heap.size ≤ bn ∧ w' = w.setCell ⟨bn, 2, none⟩ u := by unfold flR at h; rwa [if_neg (by decide)] at h
theorem flR_set' {W0 : World} {bn : Nat} {vp : Value} {w : World} (hr : Row w bn #[.int .i64 2, .string ⟨#[]⟩, vp, .slice none 0 0] 53) (hv : ∃ a n c, vp = .slice a n c) (hb : W0.heap.size ≤ bn) (u : Value) : flR W0 bn vp 12 w (w.setCell ⟨bn, 2, none⟩ u) := by
 obtain ⟨a, n, c, rfl⟩ := hv
 unfold flR; rw [if_neg (by decide)]; exact ⟨u, a, n, c, hr, hb, rfl⟩
theorem flR_own {W0 : World} {bn Bs : Nat} {vp v : Value} {w w' : World} {L : List Pt} (h : flR W0 bn vp 12 w w') (hU : OwnP Bs w v L) (hb : bn < Bs) : OwnP Bs w' v L := by
 obtain ⟨u, _, _, _, _, _, rfl⟩ := flR_set h
 exact hU.setBelow (a := ⟨bn, 2, none⟩) hb u
theorem flR_lt {W0 : World} {bn b : Nat} {vp : Value} {w w' : World} (h : flR W0 bn vp 12 w w') (hb : b < w.heap.size) : b < w'.heap.size := by
 obtain ⟨u, _, _, _, _, _, rfl⟩ := flR_set h
 simpa [World.setCell] using hb
def TxtC (w : World) (tb to : Nat) (Ps : List (List UInt8)) : Prop := ∀ i (h : i < Ps.length), w.cell? ⟨tb, to + i, none⟩ = some (.string ⟨Ps[i].toArray⟩)
theorem TxtC.stays {w w' : World} {tb to : Nat} {Ps : List (List UInt8)} (h : TxtC w tb to Ps) (hl : tb < w.heap.size) (hb : Below w.heap.size w w') : TxtC w' tb to Ps := fun i hi => (hb.cell (p := ⟨tb, to + i, none⟩) hl).trans (h i hi)
theorem TxtC.grown {w w' : World} {tb to : Nat} {Ps : List (List UInt8)} {row : Option Nat} (h : TxtC w tb to Ps) (hl : tb < w.heap.size) (hg : w.grownBy w' row) (hr : row ≠ some tb) : TxtC w' tb to Ps := fun i hi => by
 rw [World.cell?_of_block (hg.block tb hl (fun e => hr e.symm))]; exact h i hi
theorem TxtC.set {w : World} {tb to bn : Nat} {Ps : List (List UInt8)} (h : TxtC w tb to Ps) {a : Option Addr} {n c : Nat} (hc : w.cell? ⟨bn, 2, none⟩ = some (.slice a n c)) (u : Value) : TxtC (w.setCell ⟨bn, 2, none⟩ u) tb to Ps := fun i hi => by
 rw [World.cell?_setCell_other _ _ _ _ (fun e => by
  have := h i hi
  first
   | (rw [e, hc] at this; cases this)
   | (rw [← e, hc] at this; cases this))]
 exact h i hi
theorem flR_txt {W0 : World} {bn : Nat} {vp : Value} {w w' : World} {tb to : Nat} {Ps : List (List UInt8)} (h : flR W0 bn vp 12 w w') (hU : TxtC w tb to Ps) : TxtC w' tb to Ps := by
 obtain ⟨u, a, n, c, hr, _, rfl⟩ := flR_set h
 have hc := hr.cell 2
 simp only [List.getElem?_toArray, List.getElem?_cons_zero, List.getElem?_cons_succ] at hc
 exact hU.set hc u
theorem flR_any {W0 : World} {bn : Nat} {vp v0 v : Value} {w w' : World} {L0 L : List Ob} (h : flR W0 bn vp 10 w w') (hU : AnyO W0 v0 L0 w v L) : AnyO W0 v0 L0 w' v L := by
 unfold flR at h; rw [if_pos rfl] at h
 exact hU.turn h.1 fun g hg => ⟨(h.2 g hg).1, by obtain ⟨xs, hx⟩ := (h.2 g hg).2; exact ⟨xs, _, hx, by decide⟩⟩
theorem flR_any2 {W0 : World} {bn : Nat} {vp v0 v : Value} {w w' : World} {L0 L : List Ob} (h : flR W0 bn vp 12 w w') (hU : AnyO W0 v0 L0 w v L) : AnyO W0 v0 L0 w' v L := by
 obtain ⟨u, a, n, c, hr, hb, rfl⟩ := flR_set h
 exact hU.turn (grownBy_set w bn 2 u) fun g hg => by cases hg; exact ⟨hb, _, _, hr, by decide⟩
def dflU (W0 : World) (bn tb to tl tcap kc Bs : Nat) (vp lv v0 : Value) (Lp : List Pt) (LL L0 : List Ob) (Ps : List (List UInt8)) (kk t : ByteArray) : Nat → Value → Value → World → Prop
 | 0 => fun v _ _ => v = .pointer (some ⟨bn, 2, none⟩)
 | 1 => fun v _ _ => v = vp
 | 2 => fun v _ _ => v = .string kk
 | 3 => fun v _ _ => v = .slice (some ⟨tb, to, none⟩) tl tcap
 | 4 => fun v _ _ => v = .int .i64 kc
 | 5 => fun v _ _ => v = .pointer (some ⟨tb, to + kc, none⟩)
 | 6 => fun v _ _ => v = .string t
 | 7 => fun v _ _ => v = .int .i64 t.size
 | 8 => fun v _ _ => v = .agg #[.string kk, .int .i64 t.size]
 | 9 => fun v _ w => OnePt w v (⟨kk, (t.size : Int)⟩ : Pt)
 | 10 => fun v _ w => OwnP Bs w v (Lp ++ [(⟨kk, (t.size : Int)⟩ : Pt)]) ∧ bn < Bs
 | 11 => fun v _ _ => v = .pointer (some ⟨bn, 2, none⟩)
 | 12 => fun _ e w => Row w bn #[.int .i64 2, .string ⟨#[]⟩, e, .slice none 0 0] 53
 | 13 => fun _ _ w => Row w bn #[.int .i64 2, .string ⟨#[]⟩, vp, .slice none 0 0] 53 ∧ vp.ownBlock ≠ some bn
 | 14 => fun _ _ w => OwnP Bs w vp Lp
 | 15 => fun _ _ w => TxtC w tb to Ps ∧ tb < w.heap.size ∧ vp.ownBlock ≠ some tb
 | 16 => fun _ _ w => AnyO W0 v0 L0 w lv LL
 | _ => fun _ _ _ => True
def dflN : List (List Nat) := [[], [0, 13], [], [], [], [3, 4], [5, 15], [6], [2, 7], [8], [1, 9, 14], [], [11, 10, 13]]
def dflE : Nat → Option Tmp
 | 12 => some 42
 | _ => none
def dflB : List (Nat × Nat) := [(10, 9), (10, 12), (10, 14), (12, 9), (12, 13), (12, 14)]
theorem dfl_T (W0 : World) (bn tb to tl tcap kc Bs : Nat) (vp lv v0 : Value) (Lp : List Pt) (LL L0 : List Ob) (Ps : List (List UInt8)) (kk t : ByteArray) (ix kx : Nat) (v e : Value) (w w' : World) (hk : kx < 17) (hne : kx ≠ ix) (hbd : (ix, kx) ∉ dflB) (hU : (dflU W0 bn tb to tl tcap kc Bs vp lv v0 Lp LL L0 Ps kk t) kx v e w) (hT : (appTs [10, 12] (flR W0 bn vp)) ix w w') : (dflU W0 bn tb to tl tcap kc Bs vp lv v0 Lp LL L0 Ps kk t) kx v e w' := by
 by_cases hi10 : ix = 10
 ·subst hi10
  have hR := appTs_in (by decide) hT
  rcases (show kx = 0 ∨ kx = 1 ∨ kx = 2 ∨ kx = 3 ∨ kx = 4 ∨ kx = 5 ∨ kx = 6 ∨ kx = 7 ∨ kx = 8 ∨ kx = 9 ∨ kx = 10 ∨ kx = 11 ∨ kx = 12 ∨ kx = 13 ∨ kx = 14 ∨ kx = 15 ∨ kx = 16 by omega) with rfl | rfl | rfl | rfl | rfl | rfl | rfl | rfl | rfl | rfl | rfl | rfl | rfl | rfl | rfl | rfl | rfl
  iterate 9 exact hU
  ·exact absurd (by decide) hbd
  ·exact absurd rfl hne
  ·exact hU
  ·exact absurd (by decide) hbd
  ·exact ⟨((flR_app hR).block bn hU.1.lt (fun e => hU.2 e.symm)).trans hU.1, hU.2⟩
  ·exact absurd (by decide) hbd
  ·exact ⟨hU.1.grown hU.2.1 (flR_app hR) hU.2.2, Nat.lt_of_lt_of_le hU.2.1 (flR_app hR).size, hU.2.2⟩
  ·exact flR_any hR hU
 by_cases hi12 : ix = 12
 ·subst hi12
  have hR := appTs_in (by decide) hT
  rcases (show kx = 0 ∨ kx = 1 ∨ kx = 2 ∨ kx = 3 ∨ kx = 4 ∨ kx = 5 ∨ kx = 6 ∨ kx = 7 ∨ kx = 8 ∨ kx = 9 ∨ kx = 10 ∨ kx = 11 ∨ kx = 12 ∨ kx = 13 ∨ kx = 14 ∨ kx = 15 ∨ kx = 16 by omega) with rfl | rfl | rfl | rfl | rfl | rfl | rfl | rfl | rfl | rfl | rfl | rfl | rfl | rfl | rfl | rfl | rfl
  iterate 9 exact hU
  ·exact absurd (by decide) hbd
  ·exact ⟨flR_own hR hU.1 hU.2, hU.2⟩
  ·exact hU
  ·exact absurd rfl hne
  ·exact absurd (by decide) hbd
  ·exact absurd (by decide) hbd
  ·exact ⟨flR_txt hR hU.1, flR_lt hR hU.2.1, hU.2.2⟩
  ·exact flR_any2 hR hU
 have hi : ix ∉ [10, 12] := by simp [hi10, hi12]
 have hb : Below w.heap.size w w' := appTs_out hi hT
 rcases (show kx = 0 ∨ kx = 1 ∨ kx = 2 ∨ kx = 3 ∨ kx = 4 ∨ kx = 5 ∨ kx = 6 ∨ kx = 7 ∨ kx = 8 ∨ kx = 9 ∨ kx = 10 ∨ kx = 11 ∨ kx = 12 ∨ kx = 13 ∨ kx = 14 ∨ kx = 15 ∨ kx = 16 by omega) with rfl | rfl | rfl | rfl | rfl | rfl | rfl | rfl | rfl | rfl | rfl | rfl | rfl | rfl | rfl | rfl | rfl
 iterate 9 exact hU
 ·exact OnePt.stays hU hb
 ·exact ⟨OwnP.stays hU.1 hb, hU.2⟩
 ·exact hU
 ·exact Row.step hU hb
 ·exact ⟨Row.step hU.1 hb, hU.2⟩
 ·exact OwnP.stays hU hb
 ·exact ⟨hU.1.stays hU.2.1 hb, Nat.lt_of_lt_of_le hU.2.1 hb.size, hU.2.2⟩
 ·exact AnyO.stays hU hb
set_option maxRecDepth 100000 in
set_option maxHeartbeats 8000000 in
theorem rFile_any (mn av b mx : Nat) (hF : FitAt mn av mx b) (v : Value) (L : List Ob) (s : ByteArray) (w : World) (h : IsObs w v L) (hs : s.size ≤ 100000) (hL : L.length + s.size ≤ 800000) :
  Calls Tryz.prog 68 #[pV mn av mx, v, .string s] w (RetOK v L (putsN L (seqF (cutN mn b mx) s.data.toList)) (keyN (fileN (cutN mn b mx) s.data.toList)) w) := by
 have CP := Lib.hid (fun W => refPieces_any mn av b mx hF s hs W)
 have OK := Lib.hid (cutN_ok (mn := mn) (b := b) (mx := mx) (by have := hF.h1; omega) (by have := hF.h2; have := hF.h3; omega))
 obtain ⟨c, hc⟩ : ∃ c, c = cutN mn b mx := ⟨_, rfl⟩
 rw [← hc] at CP OK ⊢
 have hpl : (pcs c s.data.toList).length ≤ s.size := by have := pcs_len OK.out.pos s.data.toList.length s.data.toList (Nat.le_refl _); rw [Lib.size_eq]; exact this
 obtain ⟨V, hV⟩ : ∃ V, V = (w.alloc (.cells #[.int .i64 mn, .int .i64 av, .int .i64 mx] 39)).alloc (.cells #[.int .i64 2, .string ⟨#[]⟩, .slice none 0 0, .slice none 0 0] 53) := ⟨_, rfl⟩
 have hbV : Below w.heap.size w V := by rw [hV]; exact ((Below.refl _ _).alloc (Nat.le_refl _) _).alloc (by simp) _
 have hR0 : Row V w.heap.size #[.int .i64 mn, .int .i64 av, .int .i64 mx] 39 := by rw [hV]; exact (Row.made _ _ _).alloc _
 have hRN : Row V (w.heap.size + 1) #[.int .i64 2, .string ⟨#[]⟩, .slice none 0 0, .slice none 0 0] 53 := by
  have := Row.made (w.alloc (.cells #[.int .i64 mn, .int .i64 av, .int .i64 mx] 39)) #[.int .i64 2, .string ⟨#[]⟩, .slice none 0 0, .slice none 0 0] 53
  rw [hV]; simpa using this
 have HV := Lib.hid hV; have HBV := Lib.hid hbV; have HRN := Lib.hid hRN
 have HI := Lib.hid (h.stays hbV); have HL0 := Lib.hid h
 obtain ⟨_, a0, cap0, rfl, _, _⟩ := h
 have p0 := hR0.cell 0; have p1 := hR0.cell 1; have p2 := hR0.cell 2
 simp only [List.getElem?_toArray, List.getElem?_cons_zero, List.getElem?_cons_succ] at p0 p1 p2
 clear hV hbV hRN hR0 hc hF
 go_enter Tryz.func68, Tryz.ntmps68
 go_wp2_with fail
 rw [← HV.out]
 go_wp2_with fail
 with_reducible refine (CP.out _).mono ?_
 rintro e w1 ⟨v1, rfl, hs1, hb1⟩
 have HS1 := Lib.hid hs1
 obtain ⟨hlt1, a1, cap1, rfl, _, _⟩ := hs1
 have HRN1 := Lib.hid (HRN.out.step hb1)
 have HI1 := Lib.hid (HI.out.stays hb1)
 have HB1 := Lib.hid (below_step HBV.out hb1)
 have hz1 : w.heap.size + 1 < w1.heap.size := HRN1.out.lt
 clear hb1 p0 p1 p2
 obtain ⟨Ps, hPs⟩ : ∃ Ps, Ps = pcs c s.data.toList := ⟨_, rfl⟩
 rw [← hPs] at HS1 hpl
 have HPS := Lib.hid hPs
 rw [← hPs]
 have hsl : (strsOf Ps).length = Ps.length := strsOf_len _
 rw [hsl] at HS1
 rw [hsl]
 obtain ⟨tb, to, hab, hT1⟩ : ∃ tb to, (0 < Ps.length → a1 = some ⟨tb, to, none⟩ ∧ tb < w1.heap.size) ∧ TxtC w1 tb to Ps := by
  obtain ⟨_, _, _, e, _, hc⟩ := HS1.out
  rw [hsl] at e
  cases e
  by_cases h0 : 0 < Ps.length
  ·obtain ⟨b', off, rfl, hbl, g⟩ := hc (by rw [strsOf_len]; exact h0)
   exact ⟨b', off, fun _ => ⟨rfl, hbl⟩, fun i hi => by have := g i (by rw [strsOf_len]; exact hi); rwa [strsOf_get hi] at this⟩
  ·exact ⟨0, 0, fun h => absurd h h0, fun i hi => absurd (Nat.lt_of_le_of_lt (Nat.zero_le _) hi) h0⟩
 have HAB := Lib.hid hab; have HT1 := Lib.hid hT1
 have HLL := Lib.hid (fun k => (putsN_len L ((Ps.take k).map pieceN)).2)
 have HA1 : Hid (AnyO w (.slice a0 L.length cap0) L w1 (.slice a0 L.length cap0) L) := Lib.hid ((AnyO.of HL0.out).stays HB1.out)
 clear hPs hab hT1 HS1 hsl HI1 HI
 go_wp2
 obtain ⟨bn, hbn⟩ : ∃ bn, bn = w.heap.size + 1 := ⟨_, rfl⟩
 rw [← hbn] at HRN1 hz1 ⊢
 have HBN := Lib.hid (show w.heap.size ≤ bn by omega)
 clear hbn
 go_loopw [1, 10] (fun lv i wr => ∃ (k : Nat) (vp : Value), k ≤ Ps.length ∧ i = .int .i64 k ∧ AnyO w (.slice a0 L.length cap0) L wr lv (putsN L ((Ps.take k).map pieceN)) ∧ Row wr bn #[.int .i64 2, .string ⟨#[]⟩, vp, .slice none 0 0] 53 ∧ OwnP w1.heap.size wr vp ((Ps.take k).map partP) ∧ TxtC wr tb to Ps ∧ Below w.heap.size w wr ∧ w1.heap.size ≤ wr.heap.size) (fun _ i _ => Ps.length - (intOf i).toNat)
 case atStart => exact ⟨0, _, Nat.zero_le _, rfl, HA1.out, HRN1.out, parts_own_nil _ _, HT1.out, HB1.out, Nat.le_refl _⟩
 case round =>
  obtain ⟨k, vp, hk, rfl, hA, hR, hO, hT, hB, hzr⟩ := hrel
  have hll := HLL.out k
  rw [List.length_map, List.length_take] at hll
  by_cases hlt : k < Ps.length
  ·obtain ⟨rfl, htb⟩ := HAB.out (by omega)
   have hbk : decide ((k : Int) < (Ps.length : Int)) = true := by simpa using (show (k : Int) < Ps.length by omega)
   have hst : putsN L ((Ps.take (k + 1)).map pieceN) = putN (putsN L ((Ps.take k).map pieceN)) (pieceN (Ps[k]'hlt)) := by rw [List.take_succ_eq_append_getElem hlt, List.map_append, putsN_app]; rfl
   have hsp : (Ps.take (k + 1)).map partP = (Ps.take k).map partP ++ [partP (Ps[k]'hlt)] := by rw [List.take_succ_eq_append_getElem hlt, List.map_append]; rfl
   have c0 := hT k hlt
   obtain ⟨pk, hpk⟩ : ∃ pk, Ps[k]'hlt = pk := ⟨_, rfl⟩
   rw [hpk] at hst hsp c0
   have HPK := Lib.hid hpk
   obtain ⟨t, ht⟩ : ∃ t : ByteArray, t = ⟨pk.toArray⟩ := ⟨_, rfl⟩
   have hts : t.size = pk.length := by rw [ht, Lib.size_eq]
   obtain ⟨kk, hkk⟩ : ∃ kk : ByteArray, kk = ⟨(keyN (pieceN pk)).toArray⟩ := ⟨_, rfl⟩
   have hx : partP pk = ⟨kk, (t.size : Int)⟩ := by unfold partP; rw [hkk, hts]
   rw [hx] at hsp
   have HST := Lib.hid hst; have HSP := Lib.hid hsp
   clear hpk hst hsp
   have CP6 : Hid (Calls Tryz.prog 69 #[u1, .agg #[.int .i64 1, .string t, .slice none 0 0, .slice none 0 0]] wr (RetOK u1 (putsN L ((Ps.take k).map pieceN)) (putN (putsN L ((Ps.take k).map pieceN)) (pieceN pk)) (keyN (pieceN pk)) wr)) := Lib.hid (by
    rw [ht]; exact rPut_any u1 _ (pieceN pk) (.slice none 0 0) (.slice none 0 0) wr hA.is (by omega) (parts_nil _) (entries_nil _))
   rw [← ht] at c0
   have HT := Lib.hid ht; have HLT := Lib.hid hlt; have HA0 := Lib.hid hA; have HO0 := Lib.hid hO; have HR0 := Lib.hid hR; have HC0 := Lib.hid hT; have HKK := Lib.hid hkk; have HB0 := Lib.hid hB
   have HLEN : Hid (((Ps.take k).map partP).length ≤ 1000000) := Lib.hid (by rw [List.length_map, List.length_take]; omega)
   obtain ⟨LL, hLL⟩ : ∃ LL, LL = putN (putsN L ((Ps.take k).map pieceN)) (pieceN pk) := ⟨_, rfl⟩
   rw [← hLL] at CP6 HST
   obtain ⟨Lp, hLp⟩ : ∃ Lp, Lp = (Ps.take k).map partP := ⟨_, rfl⟩
   rw [← hLp] at HO0 HLEN HSP
   clear hA hR hO hT hts hx hkk hLp hLL hB ht
   go_wp2_with fail
   with_reducible refine CP6.out.mono ?_
   rintro e w6 ⟨v6, rfl, hs6, hb6, hv6⟩
   have HA := Lib.hid (HA0.out.next hb6 hv6)
   have HR := Lib.hid (HR0.out.step hb6)
   have HO := Lib.hid (HO0.out.stays hb6)
   have htw : tb < wr.heap.size := Nat.lt_of_lt_of_le htb hzr
   have HC : Hid (TxtC w6 tb to Ps ∧ tb < w6.heap.size) := Lib.hid ⟨HC0.out.stays htw hb6, Nat.lt_of_lt_of_le htw hb6.size⟩
   have HNE : Hid (vp.ownBlock ≠ some bn ∧ vp.ownBlock ≠ some tb) := Lib.hid ⟨fun e => by have := (World.ownsRow.lt HO0.out bn e).1; omega, fun e => by have := (World.ownsRow.lt HO0.out tb e).1; omega⟩
   have HVP : Hid (∃ a n c, vp = .slice a n c) := Lib.hid (by obtain ⟨_, a, c, e, _⟩ := HO0.out.is; exact ⟨a, _, c, e⟩)
   have HBS : Hid (bn < w1.heap.size ∧ w.heap.size ≤ bn) := Lib.hid ⟨hz1, HBN.out⟩
   have HLP := HLEN
   have HKT : Hid (k < Ps.length) := HLT
   have HG0 : Hid (HeldM w w1.heap.size { w6 with drawn := w6.drawn + 1 }) := Lib.hid ⟨(below_step HB0.out hb6).drew, Nat.le_trans hzr hb6.size⟩
   rw [← HKK.out]
   clear c0 hs6 hv6 hb6 htw
   go_wp2_with fail
   refine wp_region_wordsG (by kernel_rfl) (by kernel_rfl) (appTs [10, 12] (flR w bn vp)) (HeldM w w1.heap.size) dflE (dflU w bn tb to Ps.length cap1 k w1.heap.size vp v6 (.slice a0 L.length cap0) Lp LL L Ps kk t) 17 dflN [10, 12, 15, 16] (by kernel_rfl) (by kernel_rfl) (by kernel_rfl)
    dflB (by kernel_rfl) (fun ix kx v e w w' hi hk hne hb hU hT => dfl_T _ _ _ _ _ _ _ _ _ _ _ _ _ _ _ _ _  ix kx v e w w' hk hne hb hU hT) (by decide) (HG0.out) (fun kx hk hge => ?hv0)
    [32, 33, 34, 35, 36, 37, 38, 39, 40, 41, 42, 43] (by kernel_rfl) (forall_ops ?steps) ?behind
   case hv0 =>
    have hge' : 13 ≤ kx := hge
    rcases (show kx = 13 ∨ kx = 14 ∨ kx = 15 ∨ kx = 16 by omega) with rfl | rfl | rfl | rfl
    ·exact ⟨HR.out.drew, HNE.out.1⟩
    ·exact HO.out.stays ((Below.refl _ _).drew)
    ·exact ⟨HC.out.1.stays HC.out.2 ((Below.refl _ _).drew), HC.out.2, HNE.out.2⟩
    ·exact HA.out.stays ((Below.refl _ _).drew)
   case steps =>
    refine ⟨?_, ?_, ?_, ?_, ?_, ?_, ?_, ?_, ?_, ?_, ?_, ?_, ?_, trivial⟩
    ·refine stepG_of rfl ?_
     exact stepR_value (t := 32) (.pointer (some ⟨bn, 2, none⟩)) rfl (fun _ => appTs_other (by decide) (Below.refl _ _)) (fun ac w hG hN hO => by
      have e8 : slot ac 8 = .pointer (some ⟨bn, 0, none⟩) := hO 8 (by kernel_rfl)
      have f8 := slot_at e8
      unfold execOp; go_simp) (fun ac w hG hN => rfl)
    ·refine stepG_of rfl ?_
     exact stepR_value (t := 33) vp rfl (fun _ => appTs_other (by decide) (Below.refl _ _)) (fun ac w hG hN hO => by
      have e32 : slot ac 32 = .pointer (some ⟨bn, 2, none⟩) := hN 0 (by decide)
      have hx : Row w bn #[.int .i64 2, .string ⟨#[]⟩, vp, .slice none 0 0] 53 ∧ _ := hN 13 (by decide)
      have c2 := hx.1.cell 2
      simp only [List.getElem?_toArray, List.getElem?_cons_zero, List.getElem?_cons_succ] at c2
      have f := slot_at e32
      unfold execOp; go_simp) (fun ac w hG hN => rfl)
    ·refine stepG_of rfl ?_
     exact stepR_value (t := 34) (.string kk) rfl (fun _ => appTs_other (by decide) (Below.refl _ _)) (fun ac w hG hN hO => by
      have e11 : slot ac 11 = .string kk := hO 11 (by kernel_rfl)
      exact run_move_slot (.inl rfl) e11) (fun ac w hG hN => rfl)
    ·refine stepG_of rfl ?_
     exact stepR_value (t := 35) (.slice (some ⟨tb, to, none⟩) Ps.length cap1) rfl (fun _ => appTs_other (by decide) (Below.refl _ _)) (fun ac w hG hN hO => by
      have e9 : slot ac 9 = .slice (some ⟨tb, to, none⟩) Ps.length cap1 := hO 9 (by kernel_rfl)
      exact run_move_slot (.inl rfl) e9) (fun ac w hG hN => rfl)
    ·refine stepG_of rfl ?_
     exact stepR_value (t := 36) (.int .i64 k) rfl (fun _ => appTs_other (by decide) (Below.refl _ _)) (fun ac w hG hN hO => by
      have e10 : slot ac 10 = .int .i64 k := hO 10 (by kernel_rfl)
      exact run_move_slot (.inl rfl) e10) (fun ac w hG hN => rfl)
    ·refine stepG_of rfl ?_
     exact stepR_value (t := 37) (.pointer (some ⟨tb, to + k, none⟩)) rfl (fun _ => appTs_other (by decide) (Below.refl _ _)) (fun ac w hG hN hO => by
      have e35 : slot ac 35 = .slice (some ⟨tb, to, none⟩) Ps.length cap1 := hN 3 (by decide)
      have e36 : slot ac 36 = .int .i64 k := hN 4 (by decide)
      have f35 := slot_at e35; have f36 := slot_at e36
      have hkt := HKT.out
      unfold execOp; go_simp) (fun ac w hG hN => rfl)
    ·refine stepG_of rfl ?_
     exact stepR_value (t := 38) (.string t) rfl (fun _ => appTs_other (by decide) (Below.refl _ _)) (fun ac w hG hN hO => by
      have e37 : slot ac 37 = .pointer (some ⟨tb, to + k, none⟩) := hN 5 (by decide)
      have hx : TxtC w tb to Ps ∧ _ := hN 15 (by decide)
      have c : w.cell? ⟨tb, to + k, none⟩ = some (.string t) := by rw [HT.out, ← HPK.out]; exact hx.1 k HLT.out
      have f := slot_at e37
      unfold execOp; go_simp) (fun ac w hG hN => rfl)
    ·refine stepG_of rfl ?_
     exact stepR_value (t := 39) (.int .i64 t.size) rfl (fun _ => appTs_other (by decide) (Below.refl _ _)) (fun ac w hG hN hO => by
      have e38 : slot ac 38 = .string t := hN 6 (by decide)
      have f38 := slot_at e38
      unfold execOp; go_simp) (fun ac w hG hN => rfl)
    ·refine stepG_of rfl ?_
     exact stepR_value (t := 40) (.agg #[.string kk, .int .i64 t.size]) rfl (fun _ => appTs_other (by decide) (Below.refl _ _)) (fun ac w hG hN hO => by
      have e34 : slot ac 34 = .string kk := hN 2 (by decide)
      have e39 : slot ac 39 = .int .i64 t.size := hN 7 (by decide)
      have f34 := slot_at e34
      have f39 := slot_at e39
      unfold execOp; go_simp) (fun ac w hG hN => rfl)
    ·refine stepG_of rfl ?_
     intro ac w hG hN hO
     have e40 : slot ac 40 = .agg #[.string kk, .int .i64 t.size] := hN 8 (by decide)
     refine wp_build_part 40 rfl (x := (⟨kk, (t.size : Int)⟩ : Pt)) e40 ?_
     exact ⟨_, rfl, appTs_other (by decide) ((Below.refl _ _).alloc (Nat.le_refl _) _), hG.on ((Below.refl _ _).alloc (Nat.le_refl _) _), onePt_new w (⟨kk, (t.size : Int)⟩ : Pt)⟩
    ·refine stepG_of rfl ?_
     intro ac w hG hN hO
     have e33 : slot ac 33 = vp := hN 1 (by decide)
     have e41 : OnePt w (slot ac 41) (⟨kk, (t.size : Int)⟩ : Pt) := hN 9 (by decide)
     have hown : OwnP w1.heap.size w vp Lp := hN 14 (by decide)
     have hbs := HBS.out
     have hlp := HLP.out
     have hBw : w1.heap.size ≤ w.heap.size := hG.size
     refine wp_append_one_part 33 41 rfl hown hBw (slotE e33) e41 hlp ?_
     intro v' w' hown' hg
     exact ⟨v', rfl, appTs_at (by decide) (flR_app' hg hown hbs), ⟨hG.below.grown hg hG.below.size (fun j hj => Nat.le_trans (Nat.le_trans hbs.2 (Nat.le_of_lt hbs.1)) (World.ownsRow.lt hown j hj).1), Nat.le_trans hG.size hg.size⟩, hown', hbs.1⟩
    ·refine stepG_of rfl ?_
     exact stepR_value (t := 43) (.pointer (some ⟨bn, 2, none⟩)) rfl (fun _ => appTs_other (by decide) (Below.refl _ _)) (fun ac w hG hN hO => by
      have e8 : slot ac 8 = .pointer (some ⟨bn, 0, none⟩) := hO 8 (by kernel_rfl)
      have f8 := slot_at e8
      unfold execOp; go_simp) (fun ac w hG hN => rfl)
    ·refine stepG_of rfl ?_
     intro ac w hG hN hO
     have e43 : slot ac 43 = .pointer (some ⟨bn, 2, none⟩) := hN 11 (by decide)
     have hrow : Row w bn #[.int .i64 2, .string ⟨#[]⟩, vp, .slice none 0 0] 53 ∧ _ := hN 13 (by decide)
     have hc := hrow.1.cell 2
     have hf := hrow.1.free 2
     simp only [List.getElem?_toArray, List.getElem?_cons_zero, List.getElem?_cons_succ] at hc
     have f1 := slot_at e43
     have hbs := HBS.out
     obtain ⟨u, hu⟩ : ∃ u, u = slot ac 42 := ⟨_, rfl⟩
     have f2 := slot_at hu.symm
     have hown : OwnP w1.heap.size w (slot ac 42) (Lp ++ [(⟨kk, (t.size : Int)⟩ : Pt)]) ∧ _ := hN 10 (by decide)
     rw [← hu] at hown
     obtain ⟨_, ua, uc, hue, _, _⟩ := hown.1.is
     subst hue
     have hs := hrow.1.set 2 (.slice ua (Lp ++ [(⟨kk, (t.size : Int)⟩ : Pt)]).length uc)
     exact wp_skip (w' := w.setCell ⟨bn, 2, none⟩ (.slice ua (Lp ++ [(⟨kk, (t.size : Int)⟩ : Pt)]).length uc)) (by unfold execOp; go_simp) ⟨undef, rfl, appTs_at (by decide) (flR_set' hrow.1 HVP.out hbs.2 _), ⟨hG.below.setCell (p := ⟨bn, 2, none⟩) hbs.2 _, by have := hG.size; simpa [World.setCell] using this⟩, by
      show Row _ bn #[.int .i64 2, .string ⟨#[]⟩, exV _ 12 ac, .slice none 0 0] _
      rw [show exV dflE 12 ac = slot ac 42 from rfl, ← hu]
      exact hs⟩
   case behind =>
    intro ac w5 hG hV hS ha
    have h10 : OwnP w1.heap.size w5 (slot ac 42) (Lp ++ [(⟨kk, (t.size : Int)⟩ : Pt)]) ∧ bn < w1.heap.size := hV 10 (by decide) (by decide)
    have h12 : Row w5 bn #[.int .i64 2, .string ⟨#[]⟩, (slot ac 42), .slice none 0 0] 53 := hV 12 (by decide) (by decide)
    have h15 : TxtC w5 tb to Ps ∧ tb < w5.heap.size ∧ vp.ownBlock ≠ some tb := hV 15 (by decide) (by decide)
    have h16 : AnyO w (.slice a0 L.length cap0) L w5 v6 LL := hV 16 (by decide) (by decide)
    generalize slot ac = sl at ha h12 h10
    subst ha
    simp only [patchL, List.contains_cons, List.contains_nil, Nat.reduceBEq, Bool.or_false, Bool.or_true, if_true, Bool.false_eq_true, if_false, Nat.reduceAdd]
    generalize sl 32 = s32
    generalize sl 33 = s33
    generalize sl 34 = s34
    generalize sl 35 = s35
    generalize sl 36 = s36
    generalize sl 37 = s37
    generalize sl 38 = s38
    generalize sl 39 = s39
    generalize sl 40 = s40
    generalize sl 41 = s41
    generalize sl 42 = s42 at h12 h10 ⊢
    generalize sl 43 = s43
    clear hV hS
    have HR9 := Lib.hid h12; have HO9 := Lib.hid h10.1; have HT9 := Lib.hid h15; have HA9 := Lib.hid h16
    have HB9 := Lib.hid hG.below; have HZ9 := Lib.hid hG.size
    clear hG h10 h12 h15 h16
    obtain ⟨_, ua, uc, hue, _, _⟩ := HO9.out.is
    subst hue
    go_wp2
    go_roundw
    case rel => exact ⟨k + 1, _, by omega, by go_num, by rw [HST.out]; exact HA9.out, HR9.out, by rw [HSP.out]; exact HO9.out, HT9.out.1, HB9.out, HZ9.out⟩
    case measure => simp [intOf]; omega
  ·have hke : Ps.take k = Ps := List.take_of_length_le (by omega)
   have hge : decide ((k : Int) < (Ps.length : Int)) = false := by simp; omega
   rw [hke] at hA hO
   obtain ⟨_, va, vc, hve, _, _⟩ := hO.is
   subst hve
   have hml : (Ps.map partP).length = Ps.length := List.length_map ..
   rw [hml] at hR hO
   have x0 := hR.cell 0; have x1 := hR.cell 1; have x2 := hR.cell 2; have x3 := hR.cell 3
   simp only [List.getElem?_toArray, List.getElem?_cons_zero, List.getElem?_cons_succ] at x0 x1 x2 x3
   have hl2 := HLL.out Ps.length
   rw [List.length_map, List.length_take, List.take_length] at hl2
   have CP7 : Hid (Calls Tryz.prog 69 #[u1, .agg #[.int .i64 2, .string ⟨#[]⟩, .slice va Ps.length vc, .slice none 0 0]] wr (RetOK u1 (putsN L (Ps.map pieceN)) (putN (putsN L (Ps.map pieceN)) (fileN c s.data.toList)) (keyN (fileN c s.data.toList)) wr)) := Lib.hid (by
    have := rPut_any u1 _ (fileN c s.data.toList) (.slice va Ps.length vc) (.slice none 0 0) wr hA.is (by omega) (by unfold fileN; rw [← HPS.out]; exact hO.is) (entries_nil _)
    exact this)
   have HE : Hid (putsN L (seqF c s.data.toList) = putN (putsN L (Ps.map pieceN)) (fileN c s.data.toList)) := Lib.hid (by unfold seqF; rw [← HPS.out, putsN_app]; rfl)
   have HB7 := Lib.hid hB; have HA7 := Lib.hid hA
   clear hA hR hO hT hB hll hl2 hke hml
   go_wp2_with fail
   with_reducible refine CP7.out.mono ?_
   rintro e w8 ⟨v8, rfl, hs8, hb8, hv8⟩
   have HA8 := Lib.hid (HA7.out.next hb8 hv8)
   have HS8 := Lib.hid hs8
   have HB8 := Lib.hid (below_step HB7.out hb8)
   clear hs8 hb8 hv8 x0 x1 x2 x3
   go_wp2
   exact bodyPost_ret (v := .tuple #[v8, .string ⟨(keyN (fileN c s.data.toList)).toArray⟩]) (by simp [results, Tryz.results68, go_sem]) rfl ⟨v8, rfl, by rw [HE.out]; exact HS8.out, HB8.out, by rw [HE.out]; exact HA8.out.2.2⟩
theorem last_at {t : List UInt8} (hp : pathB t = true) : 0 < (strsOf (splitS t)).length ∧ ∀ h : (strsOf (splitS t)).length - 1 < (strsOf (splitS t)).length, (strsOf (splitS t))[(strsOf (splitS t)).length - 1].data.toList = lastN t := by
 have h0 : 0 < (splitS t).length := of_decide_eq_true hp
 refine ⟨by rw [strsOf_len]; exact h0, fun h => ?_⟩
 rw [strsOf_at (splitS t) _ h (by rw [strsOf_len]; omega)]
 unfold lastN
 simp only [strsOf_len]
 rw [List.getLastD_eq_getLast?, List.getLast?_eq_getElem?, List.getElem?_eq_getElem (by omega)]
 rfl
def sqT (c : List UInt8 → Nat) (I : List It) (k : Nat) (x : It) : List Nd := if x.d then seqD c I k x.t else seqF c x.b
def preS (c : List UInt8 → Nat) (I : List It) (k : Nat) (d : List UInt8) (i : Nat) : List Nd := (inD (I.take i) d).flatMap (sqT c I k)
def preE (c : List UInt8 → Nat) (I : List It) (k : Nat) (d : List UInt8) (i : Nat) : List En := (inD (I.take i) d).map fun x => entE x (keyN (subN c I k x))
theorem inD_step {I : List It} {d : List UInt8} {i : Nat} (hi : i < I.length) : inD (I.take (i + 1)) d = inD (I.take i) d ++ if dirS I[i].t = d then [I[i]] else [] := by
 unfold inD
 rw [List.take_succ_eq_append_getElem hi, List.filter_append, List.filter_cons, List.filter_nil]
 congr 1
 by_cases h : dirS I[i].t = d
 ·rw [if_pos h, decide_eq_true h]; rfl
 ·rw [if_neg h, decide_eq_false h]; rfl
theorem preS_in {c : List UInt8 → Nat} {I : List It} {k : Nat} {d : List UInt8} {i : Nat} (hi : i < I.length) (h : dirS I[i].t = d) : preS c I k d (i + 1) = preS c I k d i ++ sqT c I k I[i] := by
 unfold preS; rw [inD_step hi, if_pos h, List.flatMap_append]; simp
theorem preS_out {c : List UInt8 → Nat} {I : List It} {k : Nat} {d : List UInt8} {i : Nat} (hi : i < I.length) (h : dirS I[i].t ≠ d) : preS c I k d (i + 1) = preS c I k d i := by
 unfold preS; rw [inD_step hi, if_neg h, List.append_nil]
theorem preE_in {c : List UInt8 → Nat} {I : List It} {k : Nat} {d : List UInt8} {i : Nat} (hi : i < I.length) (h : dirS I[i].t = d) : preE c I k d (i + 1) = preE c I k d i ++ [entE I[i] (keyN (subN c I k I[i]))] := by
 unfold preE; rw [inD_step hi, if_pos h, List.map_append]; rfl
theorem preE_out {c : List UInt8 → Nat} {I : List It} {k : Nat} {d : List UInt8} {i : Nat} (hi : i < I.length) (h : dirS I[i].t ≠ d) : preE c I k d (i + 1) = preE c I k d i := by
 unfold preE; rw [inD_step hi, if_neg h, List.append_nil]
theorem preE_len (c : List UInt8 → Nat) (I : List It) (k : Nat) (d : List UInt8) (i : Nat) : (preE c I k d i).length ≤ i := by
 unfold preE inD; rw [List.length_map]
 exact Nat.le_trans (List.length_filter_le _ _) (by rw [List.length_take]; omega)
theorem pre_all (c : List UInt8 → Nat) (I : List It) (k : Nat) (d : List UInt8) {i : Nat} (h : I.length ≤ i) : seqD c I (k + 1) d = preS c I k d i ++ [dirN c I (k + 1) d] ∧ (dirN c I (k + 1) d) = ⟨3, ⟨#[]⟩, [], preE c I k d i⟩ := by
 unfold preS preE
 rw [List.take_of_length_le h]
 exact ⟨rfl, rfl⟩
theorem pre_less {c : List UInt8 → Nat} {I : List It} {k : Nat} {d : List UInt8} {i : Nat} (hi : i < I.length) (h : dirS I[i].t = d) : (preS c I k d i).length + (sqT c I k I[i]).length ≤ (seqD c I (k + 1) d).length := by
 have e : (seqD c I (k + 1) d) = preS c I k d I.length ++ [dirN c I (k + 1) d] := (pre_all c I k d (Nat.le_refl _)).1
 have h2 : I = I.take (i + 1) ++ I.drop (i + 1) := (List.take_append_drop _ _).symm
 have h3 : preS c I k d I.length = preS c I k d (i + 1) ++ (inD (I.drop (i + 1)) d).flatMap (sqT c I k) := by
  unfold preS
  rw [List.take_length]
  conv => lhs; rw [show inD I d = inD (I.take (i + 1)) d ++ inD (I.drop (i + 1)) d by unfold inD; rw [← List.filter_append, List.take_append_drop]]
  rw [List.flatMap_append]
 rw [e, h3, preS_in hi h]
 simp only [List.length_append]
 omega
theorem pre_le (c : List UInt8 → Nat) (I : List It) (k : Nat) (d : List UInt8) {i : Nat} (hi : i ≤ I.length) : (preS c I k d i).length ≤ (seqD c I (k + 1) d).length := by
 have e : (seqD c I (k + 1) d) = preS c I k d I.length ++ [dirN c I (k + 1) d] := (pre_all c I k d (Nat.le_refl _)).1
 have h3 : preS c I k d I.length = preS c I k d i ++ (inD (I.drop i) d).flatMap (sqT c I k) := by
  unfold preS
  rw [List.take_length]
  conv => lhs; rw [show inD I d = inD (I.take i) d ++ inD (I.drop i) d by unfold inD; rw [← List.filter_append, List.take_append_drop]]
  rw [List.flatMap_append]
 rw [e, h3]
 simp only [List.length_append]
 omega
def DirAt (mn av b mx : Nat) (I : List It) (k : Nat) : Prop := ∀ (dp : Nat), dp + k = 9 → ∀ (v iv : Value) (L : List Ob) (d : ByteArray) (w : World), IsObs w v L → IsItems w iv I → L.length + (seqD (cutN mn b mx) I k d.data.toList).length ≤ 700000 →
 Calls Tryz.prog 50 #[pV mn av mx, iv, v, .string d, .int .i64 dp] w (RetOK v L (putsN L (seqD (cutN mn b mx) I k d.data.toList)) (keyN (dirN (cutN mn b mx) I k d.data.toList)) w)
def DirIn (w : World) (P : Array Value) (v0 : Value) (L0 : List Ob) (bn Bs : Nat) (wr : World) (lv : Value) (LL : List Ob) (vp : Value) (es : List En) : Prop :=
 AnyO w v0 L0 wr lv LL ∧ Row wr bn #[.int .i64 3, .string ⟨#[]⟩, .slice none 0 0, vp] 53 ∧ OwnE Bs wr vp es ∧ Row wr w.heap.size P 39 ∧ Below w.heap.size w wr ∧ Bs ≤ wr.heap.size
theorem DirIn.stays {w : World} {P : Array Value} {v0 : Value} {L0 : List Ob} {bn Bs : Nat} {wr : World} {lv : Value} {LL : List Ob} {vp : Value} {es : List En} (h : DirIn w P v0 L0 bn Bs wr lv LL vp es) {w' : World} (hb : Below wr.heap.size wr w') : DirIn w P v0 L0 bn Bs w' lv LL vp es :=
 ⟨h.1.stays hb, h.2.1.step hb, h.2.2.1.stays hb, h.2.2.2.1.step hb, below_step h.2.2.2.2.1 hb, Nat.le_trans h.2.2.2.2.2 hb.size⟩
theorem DirIn.turn {w : World} {P : Array Value} {v0 : Value} {L0 : List Ob} {bn Bs : Nat} {wr : World} {lv : Value} {LL : List Ob} {vp : Value} {es : List En} (h : DirIn w P v0 L0 bn Bs wr lv LL vp es) {eb : Nat} {xs : Array Value} (hr : Row wr eb xs 91) (hne : ∀ g, vp.ownBlock = some g → g < eb) (hb : bn < eb) (hw : w.heap.size < eb) (i : Nat) (u : Value) :
    DirIn w P v0 L0 bn Bs (wr.setCell ⟨eb, i, none⟩ u) lv LL vp es :=
  ⟨h.1.turn (grownBy_set wr eb i u) fun g e => by cases e; exact ⟨Nat.le_of_lt hw, _, _, hr, by decide⟩,
   h.2.1.other ⟨eb, i, none⟩ u (show bn ≠ eb by omega), h.2.2.1.setNe hne u, h.2.2.2.1.other ⟨eb, i, none⟩ u (show w.heap.size ≠ eb by omega),
   h.2.2.2.2.1.setCell (p := ⟨eb, i, none⟩) (Nat.le_of_lt hw) u, by have := h.2.2.2.2.2; simpa [World.setCell] using this⟩
theorem DirIn.next {w : World} {P : Array Value} {v0 : Value} {L0 : List Ob} {bn Bs : Nat} {wr : World} {lv : Value} {LL : List Ob} {vp : Value} {es : List En} (h : DirIn w P v0 L0 bn Bs wr lv LL vp es) {w' : World} (hb : Below wr.heap.size wr w') {lv' : Value} {LL' : List Ob} (hv : lv' = lv ∧ LL' = LL ∨ OwnO wr.heap.size w' lv' LL') : DirIn w P v0 L0 bn Bs w' lv' LL' vp es :=
 ⟨h.1.next hb hv, (h.stays hb).2⟩
theorem DirIn.own {w : World} {P : Array Value} {v0 : Value} {L0 : List Ob} {bn Bs : Nat} {wr : World} {lv : Value} {LL : List Ob} {vp : Value} {es : List En} (h : DirIn w P v0 L0 bn Bs wr lv LL vp es) : OwnE Bs wr vp es := h.2.2.1
theorem DirIn.node {w : World} {P : Array Value} {v0 : Value} {L0 : List Ob} {bn Bs : Nat} {wr : World} {lv : Value} {LL : List Ob} {vp : Value} {es : List En} (h : DirIn w P v0 L0 bn Bs wr lv LL vp es) : Row wr bn #[.int .i64 3, .string ⟨#[]⟩, .slice none 0 0, vp] 53 := h.2.1
theorem DirIn.params {w : World} {P : Array Value} {v0 : Value} {L0 : List Ob} {bn Bs : Nat} {wr : World} {lv : Value} {LL : List Ob} {vp : Value} {es : List En} (h : DirIn w P v0 L0 bn Bs wr lv LL vp es) : Row wr w.heap.size P 39 := h.2.2.2.1
theorem DirIn.below {w : World} {P : Array Value} {v0 : Value} {L0 : List Ob} {bn Bs : Nat} {wr : World} {lv : Value} {LL : List Ob} {vp : Value} {es : List En} (h : DirIn w P v0 L0 bn Bs wr lv LL vp es) : Below w.heap.size w wr := h.2.2.2.2.1
theorem DirIn.size {w : World} {P : Array Value} {v0 : Value} {L0 : List Ob} {bn Bs : Nat} {wr : World} {lv : Value} {LL : List Ob} {vp : Value} {es : List En} (h : DirIn w P v0 L0 bn Bs wr lv LL vp es) : Bs ≤ wr.heap.size := h.2.2.2.2.2
theorem DirIn.added {w : World} {P : Array Value} {v0 : Value} {L0 : List Ob} {bn Bs : Nat} {wr w' : World} {lv : Value} {LL : List Ob} {vp v' : Value} {es es' : List En} (h : DirIn w P v0 L0 bn Bs wr lv LL vp es) (hg : wr.grownBy w' vp.ownBlock) (ho : OwnE Bs w' v' es') (hbn : bn < Bs) (hw : w.heap.size < bn) :
  DirIn w P v0 L0 bn Bs (w'.setCell ⟨bn, 3, none⟩ v') lv LL v' es' := by
 have hlt := fun g (e : vp.ownBlock = some g) => (World.ownsRow.lt h.own g e).1
 have hn := row_grownE h.node h.own hg hbn
 refine ⟨(h.1.turn hg fun g e => ⟨by have := hlt g e; omega, by obtain ⟨xs, hx⟩ := h.own.row e; exact ⟨xs, _, hx, by decide⟩⟩).turn (grownBy_set w' bn 3 v') fun g e => (by cases e; exact ⟨Nat.le_of_lt hw, _, _, hn, by decide⟩), ?_, ho.setBelow (a := ⟨bn, 3, none⟩) hbn v', ?_, ?_, ?_⟩
 ·simpa using hn.set 3 v'
 ·exact (row_grownE h.params h.own hg (by omega)).other ⟨bn, 3, none⟩ v' (show w.heap.size ≠ bn by omega)
 ·exact (h.below.grown hg h.below.size (fun g e => by have := hlt g e; omega)).setCell (p := ⟨bn, 3, none⟩) (Nat.le_of_lt hw) v'
 ·have := h.size; have := hg.size; simp [World.setCell]; omega
set_option maxRecDepth 100000 in
set_option maxHeartbeats 16000000 in
theorem dir_step (mn av b mx : Nat) (hF : FitAt mn av mx b) (I : List It) (hp : ∀ x ∈ I, pathB x.t = true) (hs : ∀ x ∈ I, x.p.size ≤ 100000 ∧ x.c.size ≤ 100000) (hI : I.length ≤ 1000) (k : Nat) (ih : DirAt mn av b mx I k) : DirAt mn av b mx I (k + 1) := by
 intro dp hdp v iv L d w h hi hL
 have CD := Lib.hid refDir_any
 have CS := Lib.hid refSplit_any
 have CF := Lib.hid (rFile_any mn av b mx hF)
 have IH := Lib.hid ih
 have HP := Lib.hid hp; have HS := Lib.hid hs
 obtain ⟨c, hc⟩ : ∃ c, c = cutN mn b mx := ⟨_, rfl⟩
 have HC := Lib.hid hc
 rw [← hc] at CF hL ⊢
 obtain ⟨t, ht⟩ : ∃ t, t = d.data.toList := ⟨_, rfl⟩
 rw [← ht] at hL ⊢
 have HT := Lib.hid ht
 obtain ⟨V, hV⟩ : ∃ V, V = (w.alloc (.cells #[.int .i64 mn, .int .i64 av, .int .i64 mx] 39)).alloc (.cells #[.int .i64 3, .string ⟨#[]⟩, .slice none 0 0, .slice none 0 0] 53) := ⟨_, rfl⟩
 have hbV : Below w.heap.size w V := by rw [hV]; exact ((Below.refl _ _).alloc (Nat.le_refl _) _).alloc (by simp) _
 have hR0 : Row V w.heap.size #[.int .i64 mn, .int .i64 av, .int .i64 mx] 39 := by rw [hV]; exact (Row.made _ _ _).alloc _
 have hRN : Row V (w.heap.size + 1) #[.int .i64 3, .string ⟨#[]⟩, .slice none 0 0, .slice none 0 0] 53 := by
  have := Row.made (w.alloc (.cells #[.int .i64 mn, .int .i64 av, .int .i64 mx] 39)) #[.int .i64 3, .string ⟨#[]⟩, .slice none 0 0, .slice none 0 0] 53
  rw [hV]; simpa using this
 have hz1 := hRN.lt
 obtain ⟨bn, hbn⟩ : ∃ bn, bn = w.heap.size + 1 := ⟨_, rfl⟩
 have HBN := Lib.hid hbn
 have HD0 : Hid (DirIn w #[.int .i64 mn, .int .i64 av, .int .i64 mx] v L bn V.heap.size V v (putsN L (preS c I k t 0)) (.slice none 0 0) (preE c I k t 0)) := Lib.hid (by
  rw [hbn]
  have e1 : preS c I k t 0 = [] := rfl
  have e2 : preE c I k t 0 = [] := rfl
  rw [e1, e2]
  exact ⟨(AnyO.of h).stays hbV, hRN, entries_own_nil _ _, hR0, hbV, Nat.le_refl _⟩)
 have HV := Lib.hid hV; have HI0 := Lib.hid hi
 have HLN := Lib.hid hL
 obtain ⟨_, a0, cap0, rfl, _, _⟩ := h
 obtain ⟨_, a1, cap1, rfl, _, _⟩ := hi
 have q8 : decide ((dp : Int) ≤ 8) = true := decide_eq_true (by omega)
 clear hV hbV hRN hR0 hc ht hF hp hs ih hL
 go_enter Tryz.func50, Tryz.ntmps50
 go_wp2_with fail
 rw [← HV.out, ← HBN.out]
 clear hbn
 go_loopw [2, 13] (fun lv i wr => ∃ (j : Nat) (vp : Value), j ≤ I.length ∧ i = .int .i64 j ∧ DirIn w #[.int .i64 mn, .int .i64 av, .int .i64 mx] (.slice a0 L.length cap0) L bn V.heap.size wr lv (putsN L (preS c I k t j)) vp (preE c I k t j)) (fun _ i _ => I.length - (intOf i).toNat)
 case atStart => exact ⟨0, _, Nat.zero_le _, rfl, HD0.out⟩
 case round =>
  obtain ⟨j, vp, hj, rfl, hD⟩ := hrel
  have HD := Lib.hid hD
  have hB := hD.2.2.2.2.1
  have hll := (putsN_len L (preS c I k t j)).2
  have hpl := pre_le c I k t hj
  clear hD
  by_cases hlt : j < I.length
  ·obtain ⟨_, _, _, e, _, hc⟩ := HI0.out.stays hB
   cases e
   obtain ⟨b1, off, rfl, hbl, g⟩ := hc (by omega)
   obtain ⟨c0, c1, c2, c3⟩ := g j hlt
   clear g hc
   have hbk : decide ((j : Int) < (I.length : Int)) = true := by simpa using (show (j : Int) < I.length by omega)
   have hin := preS_in (c := c) (k := k) (d := t) hlt
   have hout := preS_out (c := c) (k := k) (d := t) hlt
   have ein := preE_in (c := c) (k := k) (d := t) hlt
   have eout := preE_out (c := c) (k := k) (d := t) hlt
   have hle := pre_less (c := c) (k := k) (d := t) hlt
   have hxp := HP.out _ (List.getElem_mem hlt)
   have hxs := HS.out _ (List.getElem_mem hlt)
   obtain ⟨x, hx⟩ : ∃ x, I[j]'hlt = x := ⟨_, rfl⟩
   rw [hx] at c0 c1 c2 c3 hin hout ein eout hle hxp hxs
   clear hx
   have C := Lib.hid (CD.out x.p hxs.1)
   rw [show x.p.data.toList = x.t from rfl] at C
   have hba := (Below.refl wr.heap.size wr).alloc (Nat.le_refl _) (.cells #[.string x.p, .bool x.d, .bool x.e, .string x.c] 65)
   have HX := Lib.hid (inBox_new wr x 65)
   have HD2 := Lib.hid (HD.out.stays hba)
   have HI2 := Lib.hid (HI0.out.stays (below_step hB hba))
   clear hba HD
   by_cases hd : dirS x.t = t
   ·have f1 : ((dirS x.t) == d.toList) = true := by rw [beq_iff_eq, Lib.toList_data, ← HT.out]; exact hd
    have HIN := Lib.hid (hin hd); have EIN := Lib.hid (ein hd); have HLE := Lib.hid (hle hd)
    have S := Lib.hid (CS.out x.p hxs.1)
    rw [show x.p.data.toList = x.t from rfl] at S
    have HL := Lib.hid (last_at hxp)
    have HXP := Lib.hid hxp; have HXS := Lib.hid hxs; have HPL := Lib.hid hpl; have HLL := Lib.hid hll
    clear hin hout ein eout hle hd hxp hxs hpl hll
    go_wp2_with fail
    refine (C.out _).mono ?_
    rintro e w1 ⟨rfl, hb1⟩
    have HX1 := Lib.hid (HX.out.stays hb1)
    have HD3 := Lib.hid (HD2.out.stays hb1)
    have HI3 := Lib.hid (HI2.out.stays hb1)
    obtain ⟨e0, e1, e2, e3⟩ := HX1.out.cells
    clear c0 c1 c2 c3 hb1 HX HD2 HI2 hB
    go_wp2_with fail
    refine (S.out _).mono ?_
    rintro e w2 ⟨v2, rfl, hv2, hb2⟩
    have HX2 := Lib.hid (HX1.out.stays hb2)
    have HD4 := Lib.hid (HD3.out.stays hb2)
    have HI4 := Lib.hid (HI3.out.stays hb2)
    clear e0 e1 e2 e3 hb2 HX1 HD3 HI3
    obtain ⟨e0, e1, e2, e3⟩ := HX2.out.cells
    obtain ⟨M, hM⟩ : ∃ M, M = strsOf (splitS x.t) := ⟨_, rfl⟩
    rw [← hM] at HL hv2
    clear hM
    obtain ⟨hm2, a2, cap2, rfl, _, hc2⟩ := hv2
    have hmm2 : M.length ≤ 9223372036854775807 := by unfold maxLen at hm2; omega
    have hpos := HL.out.1
    obtain ⟨b2, o2, rfl, _, g2⟩ := hc2 hpos
    have q := g2 (M.length - 1) (by omega)
    have HZ := Lib.hid (HL.out.2 (by omega))
    obtain ⟨z, hz⟩ : ∃ z, z = M[M.length - 1] := ⟨_, rfl⟩
    rw [← hz] at q HZ
    clear hz g2 hc2
    have hw1 : IntKind.i64.wrap ((M.length : Int) - 1) = ((M.length - 1 : Nat) : Int) := (IntWalk.i64_in _ (by omega)).trans (by omega)
    have hlt2 : M.length - 1 < M.length := by omega
    have hlx := HX2.out.2
    have htn : ((M.length - 1 : Nat) : Int).toNat = M.length - 1 := by omega
    go_wp2_with fail
    go_region
    obtain ⟨W5, hW5⟩ : ∃ W5, W5 = (w2.alloc (.cells #[.string z, .int .i64 2, .bool x.e, .string ⟨#[]⟩] 91)).drew := ⟨_, rfl⟩
    obtain ⟨eb, heb⟩ : ∃ eb, eb = w2.heap.size := ⟨_, rfl⟩
    have hbe : Below w2.heap.size w2 W5 := by rw [hW5]; exact ((Below.refl _ _).alloc (Nat.le_refl _) _).drew
    have hRE : Row W5 eb #[.string z, .int .i64 2, .bool x.e, .string ⟨#[]⟩] 91 := by rw [hW5, heb]; exact (Row.made w2 _ _).drew
    have HWE := Lib.hid hW5
    rw [← hW5, ← heb]
    have HX5 := Lib.hid (HX2.out.stays hbe)
    have HD5 := Lib.hid (HD4.out.stays hbe)
    have HI5 := Lib.hid (HI4.out.stays hbe)
    have HRE := Lib.hid hRE
    have hge : ∀ g, vp.ownBlock = some g → g < eb := fun g e => by rw [heb]; exact (World.ownsRow.lt HD4.out.own g e).2
    have HGE := Lib.hid hge
    have hsz4 := HD4.out.size
    have hbeb : bn < eb := by have := HBN.out; omega
    have hz9 : bn < V.heap.size := by have := HBN.out; omega
    have hweb : w.heap.size < eb := by have := HBN.out; omega
    have hxe : wr.heap.size ≠ eb := by omega
    have hz5 : eb < W5.heap.size := hRE.lt
    clear hW5 hRE hge e0 e1 e2 e3 q hbe heb hlt2 htn hw1 hlx hpos hmm2 hm2
    obtain ⟨e0, e1, e2, e3⟩ := HX5.out.cells
    have HEN : Hid (z = ⟨(lastN x.t).toArray⟩) := Lib.hid (str_list HZ.out)
    rcases hxd : x.d with _ | _
    ·rw [hxd] at e1
     have HD6 := HD5
     have HRE6 : Hid (Row W5 eb #[.string z, .int .i64 2, .bool x.e, .string ⟨#[]⟩] 91) := HRE
     have hq : sqT c I k x = seqF c x.b := by unfold sqT; rw [if_neg (by rw [hxd]; decide)]
     have hsub : subN c I k x = fileN c x.b := by unfold subN; rw [if_neg (by rw [hxd]; decide)]
     rw [hq] at HIN HLE; rw [hsub] at EIN
     have CK := Lib.hid (CF.out u2 (putsN L (preS c I k t j)) x.c W5 HD6.out.1.is HXS.out.2 (by
      have := HLN.out; have := HLL.out; have := HPL.out; have := HXS.out.2; omega))
     rw [show x.c.data.toList = x.b from rfl, ← putsN_app, ← HIN.out] at CK
     obtain ⟨K, hK⟩ : ∃ K : ByteArray, K = ⟨(keyN (fileN c x.b)).toArray⟩ := ⟨_, rfl⟩
     have HK := Lib.hid hK
     have p0 := HD6.out.params.cell 0; have p1 := HD6.out.params.cell 1; have p2 := HD6.out.params.cell 2
     simp only [List.getElem?_toArray, List.getElem?_cons_zero, List.getElem?_cons_succ] at p0 p1 p2
     have hEN : entE x (keyN (fileN c x.b)) = ⟨z, 2, x.e, K⟩ := by unfold entE; rw [HEN.out, hK, hxd]; rfl
     rw [hEN] at EIN
     obtain ⟨LL2, hLL2⟩ : ∃ LL2, LL2 = putsN L (preS c I k t (j + 1)) := ⟨_, rfl⟩
     rw [← hLL2] at CK
     have HL2 := Lib.hid hLL2
     clear hK hEN hq hsub hxd hLL2
     go_wp2_with fail
     refine CK.out.mono ?_
     rintro e w7 ⟨v7, rfl, hs7, hb7, hv7⟩
     rw [← HK.out]
     have hR7 := HRE6.out.step hb7
     have HD7 := Lib.hid (HD6.out.next hb7 hv7)
     have hge7 : eb < w7.heap.size := hR7.lt
     clear hs7 hv7 hb7 p0 p1 p2 e0 e1 e2 e3
     have r0 := hR7.cell 0; have r1 := hR7.cell 1; have r2 := hR7.cell 2; have r3 := hR7.cell 3
     have n3 := hR7.free 3
     simp only [List.getElem?_toArray, List.getElem?_cons_zero, List.getElem?_cons_succ] at r0 r1 r2 r3
     have hR8 : Row (w7.setCell ⟨eb, 3, none⟩ (.string K)) eb #[.string z, .int .i64 2, .bool x.e, .string K] 91 := by simpa using hR7.set 3 (.string K)
     have HD8 := Lib.hid (HD7.out.turn hR7 HGE.out hbeb hweb 3 (.string K))
     have s0 := hR8.cell 0; have s1 := hR8.cell 1; have s2 := hR8.cell 2; have s3 := hR8.cell 3
     have x0 := HD8.out.node.cell 0; have x1 := HD8.out.node.cell 1; have x2 := HD8.out.node.cell 2; have x3 := HD8.out.node.cell 3
     simp only [List.getElem?_toArray, List.getElem?_cons_zero, List.getElem?_cons_succ] at s0 s1 s2 s3 x0 x1 x2 x3
     have hw8 := HD8.out.size
     have HZ8 : Hid (w7.heap.size = (w7.setCell ⟨eb, 3, none⟩ (.string K)).heap.size) := Lib.hid (by simp [World.setCell])
     have hel : (preE c I k t j).length ≤ 1000000 := by have := preE_len c I k t j; omega
     clear hR7 hR8
     go_wp2_with (at_builtin; refine wpList_append_entries2 (y := ⟨z, 2, x.e, K⟩) rfl _ _ rfl HD8.out.own hw8 HZ8.out rfl rfl hel ?_)
     intro v' w9 hown9 hg9
     have hn9 := row_grownE HD8.out.node HD8.out.own hg9 hz9
     have HD9 := Lib.hid (HD8.out.added hg9 hown9 hz9 (by have := HBN.out; omega))
     have z0 := hn9.cell 0; have z1 := hn9.cell 1; have z2 := hn9.cell 2; have z3 := hn9.cell 3
     have m3 := hn9.free 3
     simp only [List.getElem?_toArray, List.getElem?_cons_zero, List.getElem?_cons_succ] at z0 z1 z2 z3
     obtain ⟨_, va2, vc2, hve, _, _⟩ := hown9.is
     subst hve
     rw [← EIN.out] at HD9 ⊢
     obtain ⟨En2, hEn2⟩ : ∃ En2, En2 = preE c I k t (j + 1) := ⟨_, rfl⟩
     rw [← hEn2] at HD9 ⊢
     have HE2 := Lib.hid hEn2
     clear hg9 hown9 hn9 s0 s1 s2 s3 x0 x1 x2 x3 hEn2
     go_wp2
     go_roundw
     case rel => exact ⟨j + 1, _, by omega, by go_num, by rw [← HL2.out, ← HE2.out]; exact HD9.out⟩
     case measure => simp [intOf]; omega
    ·rw [hxd] at e1
     have HD6 := Lib.hid (HD5.out.turn HRE.out HGE.out hbeb hweb 1 (.int .i64 3))
     have hR6 := HRE.out.set 1 (.int .i64 3)
     have HRE6 : Hid (Row (W5.setCell ⟨eb, 1, none⟩ (.int .i64 3)) eb #[.string z, .int .i64 3, .bool x.e, .string ⟨#[]⟩] 91) := Lib.hid (by simpa using hR6)
     have HI6 : Hid (IsItems (W5.setCell ⟨eb, 1, none⟩ (.int .i64 3)) _ I) := Lib.hid (HI0.out.stays HD6.out.below)
     have r0 := HRE.out.cell 0; have r1 := HRE.out.cell 1; have r2 := HRE.out.cell 2; have r3 := HRE.out.cell 3
     have n1 := HRE.out.free 1
     simp only [List.getElem?_toArray, List.getElem?_cons_zero, List.getElem?_cons_succ] at r0 r1 r2 r3
     clear hR6
     have i0 : (W5.setCell ⟨eb, 1, none⟩ (.int .i64 3)).cell? ⟨wr.heap.size, 0, none⟩ = some (.string x.p) := (World.cell?_setCell_other _ _ _ _ (fun e => hxe (by cases e))).trans e0
     have hq : sqT c I k x = seqD c I k x.t := by unfold sqT; rw [if_pos hxd]
     have hsub : subN c I k x = dirN c I k x.t := by unfold subN; rw [if_pos hxd]
     rw [hq] at HIN HLE; rw [hsub] at EIN
     have CK := Lib.hid (IH.out (dp + 1) (by omega) u2 (.slice (some ⟨b1, off, none⟩) I.length cap1) (putsN L (preS c I k t j)) x.p (W5.setCell ⟨eb, 1, none⟩ (.int .i64 3)) HD6.out.1.is HI6.out (by
      rw [← HC.out, show x.p.data.toList = x.t from rfl]
      have := HLN.out; have := HLE.out; have := HLL.out; omega))
     rw [← HC.out, show x.p.data.toList = x.t from rfl, ← putsN_app, ← HIN.out] at CK
     obtain ⟨K, hK⟩ : ∃ K : ByteArray, K = ⟨(keyN (dirN c I k x.t)).toArray⟩ := ⟨_, rfl⟩
     have HK := Lib.hid hK
     have p0 := HD6.out.params.cell 0; have p1 := HD6.out.params.cell 1; have p2 := HD6.out.params.cell 2
     simp only [List.getElem?_toArray, List.getElem?_cons_zero, List.getElem?_cons_succ] at p0 p1 p2
     have hEN : entE x (keyN (dirN c I k x.t)) = ⟨z, 3, x.e, K⟩ := by unfold entE; rw [HEN.out, hK, hxd]; rfl
     rw [hEN] at EIN
     obtain ⟨LL2, hLL2⟩ : ∃ LL2, LL2 = putsN L (preS c I k t (j + 1)) := ⟨_, rfl⟩
     rw [← hLL2] at CK
     have HL2 := Lib.hid hLL2
     clear hK hEN hq hsub hxd hLL2
     go_wp2_with fail
     refine CK.out.mono ?_
     rintro e w7 ⟨v7, rfl, hs7, hb7, hv7⟩
     rw [← HK.out]
     have hR7 := HRE6.out.step hb7
     have HD7 := Lib.hid (HD6.out.next hb7 hv7)
     have hge7 : eb < w7.heap.size := hR7.lt
     clear hs7 hv7 hb7 p0 p1 p2 e0 e1 e2 e3 r0 r1 r2 r3 n1 i0
     have r0 := hR7.cell 0; have r1 := hR7.cell 1; have r2 := hR7.cell 2; have r3 := hR7.cell 3
     have n3 := hR7.free 3
     simp only [List.getElem?_toArray, List.getElem?_cons_zero, List.getElem?_cons_succ] at r0 r1 r2 r3
     have hR8 : Row (w7.setCell ⟨eb, 3, none⟩ (.string K)) eb #[.string z, .int .i64 3, .bool x.e, .string K] 91 := by simpa using hR7.set 3 (.string K)
     have HD8 := Lib.hid (HD7.out.turn hR7 HGE.out hbeb hweb 3 (.string K))
     have s0 := hR8.cell 0; have s1 := hR8.cell 1; have s2 := hR8.cell 2; have s3 := hR8.cell 3
     have x0 := HD8.out.node.cell 0; have x1 := HD8.out.node.cell 1; have x2 := HD8.out.node.cell 2; have x3 := HD8.out.node.cell 3
     simp only [List.getElem?_toArray, List.getElem?_cons_zero, List.getElem?_cons_succ] at s0 s1 s2 s3 x0 x1 x2 x3
     have hw8 := HD8.out.size
     have HZ8 : Hid (w7.heap.size = (w7.setCell ⟨eb, 3, none⟩ (.string K)).heap.size) := Lib.hid (by simp [World.setCell])
     have hel : (preE c I k t j).length ≤ 1000000 := by have := preE_len c I k t j; omega
     clear hR7 hR8
     go_wp2_with (at_builtin; refine wpList_append_entries2 (y := ⟨z, 3, x.e, K⟩) rfl _ _ rfl HD8.out.own hw8 HZ8.out rfl rfl hel ?_)
     intro v' w9 hown9 hg9
     have hn9 := row_grownE HD8.out.node HD8.out.own hg9 hz9
     have HD9 := Lib.hid (HD8.out.added hg9 hown9 hz9 (by have := HBN.out; omega))
     have z0 := hn9.cell 0; have z1 := hn9.cell 1; have z2 := hn9.cell 2; have z3 := hn9.cell 3
     have m3 := hn9.free 3
     simp only [List.getElem?_toArray, List.getElem?_cons_zero, List.getElem?_cons_succ] at z0 z1 z2 z3
     obtain ⟨_, va2, vc2, hve, _, _⟩ := hown9.is
     subst hve
     rw [← EIN.out] at HD9 ⊢
     obtain ⟨En2, hEn2⟩ : ∃ En2, En2 = preE c I k t (j + 1) := ⟨_, rfl⟩
     rw [← hEn2] at HD9 ⊢
     have HE2 := Lib.hid hEn2
     clear hg9 hown9 hn9 s0 s1 s2 s3 x0 x1 x2 x3 hEn2
     go_wp2
     go_roundw
     case rel => exact ⟨j + 1, _, by omega, by go_num, by rw [← HL2.out, ← HE2.out]; exact HD9.out⟩
     case measure => simp [intOf]; omega
   ·have f1 : ((dirS x.t) == d.toList) = false := by rw [beq_eq_false_iff_ne, Lib.toList_data, ← HT.out]; exact hd
    have HIN := Lib.hid (hout hd); have EIN := Lib.hid (eout hd)
    clear hin hout ein eout hle hd hxp hxs hpl hll
    go_wp2_with fail
    refine (C.out _).mono ?_
    rintro e w1 ⟨rfl, hb1⟩
    have HD3 := Lib.hid (HD2.out.stays hb1)
    clear c0 c1 c2 c3 hb1 HX HD2 HI2 hB
    go_wp2_with fail
    go_roundw
    case rel => exact ⟨j + 1, vp, by omega, by go_num, by rw [HIN.out, EIN.out]; exact HD3.out⟩
    case measure => simp [intOf]; omega
  ·have hge : decide ((j : Int) < (I.length : Int)) = false := by simp; omega
   obtain ⟨PA1, PA2⟩ := pre_all c I k t (i := j) (by omega)
   have HPA := Lib.hid PA1; have HPB := Lib.hid PA2
   obtain ⟨_, va, vc, hve, _, _⟩ := HD.out.own.is
   have hle := preE_len c I k t j
   obtain ⟨ez, hez⟩ : ∃ ez, ez = (preE c I k t j).length := ⟨_, rfl⟩
   rw [← hez] at hve
   subst hve
   have x0 := HD.out.node.cell 0; have x1 := HD.out.node.cell 1; have x2 := HD.out.node.cell 2; have x3 := HD.out.node.cell 3
   simp only [List.getElem?_toArray, List.getElem?_cons_zero, List.getElem?_cons_succ] at x0 x1 x2 x3
   have CP7 : Hid (Calls Tryz.prog 69 #[u2, .agg #[.int .i64 3, .string ⟨#[]⟩, .slice none 0 0, .slice va ez vc]] wr (RetOK u2 (putsN L (preS c I k t j)) (putN (putsN L (preS c I k t j)) (dirN c I (k + 1) t)) (keyN (dirN c I (k + 1) t)) wr)) := Lib.hid (by
    have := rPut_any u2 _ (dirN c I (k + 1) t) (.slice none 0 0) (.slice va ez vc) wr HD.out.1.is (by have := HLN.out; omega) (parts_nil _) (by rw [HPB.out]; exact HD.out.own.is)
    exact this)
   have HE : Hid (putsN L (seqD c I (k + 1) t) = putN (putsN L (preS c I k t j)) (dirN c I (k + 1) t)) := Lib.hid (by rw [HPA.out, putsN_app]; rfl)
   clear PA1 PA2 hle hez hll hpl hB
   go_wp2_with fail
   with_reducible refine CP7.out.mono ?_
   rintro e w8 ⟨v8, rfl, hs8, hb8, hv8⟩
   have HA8 := Lib.hid (HD.out.1.next hb8 hv8)
   have HS8 := Lib.hid hs8
   have HB8 := Lib.hid (below_step HD.out.below hb8)
   clear hs8 hb8 hv8 x0 x1 x2 x3
   go_wp2
   exact bodyPost_ret (v := .tuple #[v8, .string ⟨(keyN (dirN c I (k + 1) t)).toArray⟩]) (by simp [results, Tryz.results50, go_sem]) rfl ⟨v8, rfl, by rw [HE.out]; exact HS8.out, HB8.out, by rw [HE.out]; exact HA8.out.2.2⟩
set_option maxRecDepth 100000 in
set_option maxHeartbeats 8000000 in
theorem dir_zero (mn av b mx : Nat) (I : List It) : DirAt mn av b mx I 0 := by
 intro dp hdp v iv L d w h hi hL
 obtain ⟨c, hc⟩ : ∃ c, c = cutN mn b mx := ⟨_, rfl⟩
 rw [← hc] at hL ⊢
 obtain ⟨t, ht⟩ : ∃ t, t = d.data.toList := ⟨_, rfl⟩
 rw [← ht] at hL ⊢
 obtain ⟨V, hV⟩ : ∃ V, V = (w.alloc (.cells #[.int .i64 mn, .int .i64 av, .int .i64 mx] 39)).alloc (.cells #[.int .i64 3, .string ⟨#[]⟩, .slice none 0 0, .slice none 0 0] 53) := ⟨_, rfl⟩
 have hbV : Below w.heap.size w V := by rw [hV]; exact ((Below.refl _ _).alloc (Nat.le_refl _) _).alloc (by simp) _
 have hRN : Row V (w.heap.size + 1) #[.int .i64 3, .string ⟨#[]⟩, .slice none 0 0, .slice none 0 0] 53 := by
  have := Row.made (w.alloc (.cells #[.int .i64 mn, .int .i64 av, .int .i64 mx] 39)) #[.int .i64 3, .string ⟨#[]⟩, .slice none 0 0, .slice none 0 0] 53
  rw [hV]; simpa using this
 have x0 := hRN.cell 0; have x1 := hRN.cell 1; have x2 := hRN.cell 2; have x3 := hRN.cell 3
 simp only [List.getElem?_toArray, List.getElem?_cons_zero, List.getElem?_cons_succ] at x0 x1 x2 x3
 have q8 : decide ((dp : Int) ≤ 8) = false := by simp; omega
 have HV := Lib.hid hV; have HB0 := Lib.hid hbV
 have CP : Hid (∀ W, Below V.heap.size V W → Calls Tryz.prog 69 #[v, .agg #[.int .i64 3, .string ⟨#[]⟩, .slice none 0 0, .slice none 0 0]] W (RetOK v L (putN L ⟨3, ⟨#[]⟩, [], []⟩) (keyN ⟨3, ⟨#[]⟩, [], []⟩) W)) := Lib.hid (fun W hb =>
  rPut_any v L ⟨3, ⟨#[]⟩, [], []⟩ (.slice none 0 0) (.slice none 0 0) W (h.stays (below_step hbV hb)) (by omega) (parts_nil _) (entries_nil _))
 obtain ⟨_, a0, cap0, rfl, _, _⟩ := h
 obtain ⟨hm1, a1, cap1, rfl, _, _⟩ := hi
 have hmm : I.length ≤ 9223372036854775807 := by unfold maxLen at hm1; omega
 have HE1 : Hid (putsN L (seqD c I 0 t) = putN L ⟨3, ⟨#[]⟩, [], []⟩) := Lib.hid rfl
 have HE2 : Hid (keyN (dirN c I 0 t) = keyN ⟨3, ⟨#[]⟩, [], []⟩) := Lib.hid rfl
 rw [HE1.out, HE2.out]
 clear hV hbV hRN hc ht hm1 hL HE1 HE2
 rcases h0 : decide ((0 : Int) < (I.length : Int)) with _ | _
 ·have h1 : ¬ 0 < I.length := by simpa using h0
  go_enter Tryz.func50, Tryz.ntmps50
  go_wp2_with fail
  rw [← HV.out]
  refine wp_loop_rounds 1 ?_
  rw [rounds_succ]
  go_wp2_with fail
  with_reducible refine (CP.out _ (Below.refl _ _)).mono ?_
  rintro e w8 ⟨v8, rfl, hs8, hb8, hv8⟩
  have HS8 := Lib.hid hs8; have HV8 := Lib.hid (hv8.imp id fun h => h.low HB0.out.size)
  have HB8 := Lib.hid (below_step HB0.out hb8)
  clear hs8 hb8 hv8 x0 x1 x2 x3
  go_wp2
  exact bodyPost_ret (v := .tuple #[v8, .string ⟨(keyN ⟨3, ⟨#[]⟩, [], []⟩).toArray⟩]) (by simp [results, Tryz.results50, go_sem]) rfl ⟨v8, rfl, HS8.out, HB8.out, HV8.out⟩
 ·have h1 : 0 < I.length := by simpa using h0
  go_enter Tryz.func50, Tryz.ntmps50
  go_wp2_with fail
  rw [← HV.out]
  refine wp_loop_rounds 1 ?_
  rw [rounds_succ]
  go_wp2_with fail
  with_reducible refine (CP.out _ (Below.refl _ _)).mono ?_
  rintro e w8 ⟨v8, rfl, hs8, hb8, hv8⟩
  have HS8 := Lib.hid hs8; have HV8 := Lib.hid (hv8.imp id fun h => h.low HB0.out.size)
  have HB8 := Lib.hid (below_step HB0.out hb8)
  clear hs8 hb8 hv8 x0 x1 x2 x3
  go_wp2
  exact bodyPost_ret (v := .tuple #[v8, .string ⟨(keyN ⟨3, ⟨#[]⟩, [], []⟩).toArray⟩]) (by simp [results, Tryz.results50, go_sem]) rfl ⟨v8, rfl, HS8.out, HB8.out, HV8.out⟩
theorem rDir_any (mn av b mx : Nat) (hF : FitAt mn av mx b) (I : List It) (hp : ∀ x ∈ I, pathB x.t = true) (hs : ∀ x ∈ I, x.p.size ≤ 100000 ∧ x.c.size ≤ 100000) (hI : I.length ≤ 1000) : ∀ k, DirAt mn av b mx I k
 | 0 => dir_zero mn av b mx I
 | k + 1 => dir_step mn av b mx hF I hp hs hI k (rDir_any mn av b mx hF I hp hs hI k)
def RetKO (k : List UInt8) (L : List Ob) (w : World) (e : Ending) (w' : World) : Prop := ∃ v', e = .returned (.tuple #[.string ⟨k.toArray⟩, v']) ∧ IsObs w' v' L ∧ Below w.heap.size w w'
set_option maxRecDepth 100000 in
set_option maxHeartbeats 8000000 in
theorem rBuild_any (mn av b mx : Nat) (hF : FitAt mn av mx b) (iv : Value) (I : List It) (w : World) (hi : IsItems w iv I) (hp : ∀ x ∈ I, pathB x.t = true) (hs : ∀ x ∈ I, x.p.size ≤ 100000 ∧ x.c.size ≤ 100000) (hI : I.length ≤ 1000) (hL : (seqT (cutN mn b mx) I).length ≤ 700000) :
  Calls Tryz.prog 28 #[pV mn av mx, iv] w (RetKO (keyN (topT (cutN mn b mx) I)) (objsT (cutN mn b mx) I) w) := by
 have CK : Hid (∀ W, IsItems W iv I → Calls Tryz.prog 50 #[pV mn av mx, iv, .slice none 0 0, .string ⟨#[]⟩, .int .i64 0] W (RetOK (.slice none 0 0) [] (objsT (cutN mn b mx) I) (keyN (topT (cutN mn b mx) I)) W)) := Lib.hid (fun W h =>
  rDir_any mn av b mx hF I hp hs hI 9 0 rfl (.slice none 0 0) iv [] ⟨#[]⟩ W (obs_nil _) h (by
   have : (seqD (cutN mn b mx) I 9 (⟨#[]⟩ : ByteArray).data.toList).length ≤ 700000 := hL
   simpa using this))
 obtain ⟨V, hV⟩ : ∃ V, V = w.alloc (.cells #[.int .i64 mn, .int .i64 av, .int .i64 mx] 39) := ⟨_, rfl⟩
 have hbV : Below w.heap.size w V := by rw [hV]; exact (Below.refl _ _).alloc (Nat.le_refl _) _
 have hR0 : Row V w.heap.size #[.int .i64 mn, .int .i64 av, .int .i64 mx] 39 := by rw [hV]; exact Row.made _ _ _
 have p0 := hR0.cell 0; have p1 := hR0.cell 1; have p2 := hR0.cell 2
 simp only [List.getElem?_toArray, List.getElem?_cons_zero, List.getElem?_cons_succ] at p0 p1 p2
 have HV := Lib.hid hV; have HB0 := Lib.hid hbV
 have HI := Lib.hid (hi.stays hbV)
 obtain ⟨K, hK⟩ : ∃ K : ByteArray, K = ⟨(keyN (topT (cutN mn b mx) I)).toArray⟩ := ⟨_, rfl⟩
 obtain ⟨_, a1, cap1, rfl, _, _⟩ := hi
 have HK := Lib.hid hK
 clear hF hp hs hL hK hV hbV hR0
 go_enter Tryz.func28, Tryz.ntmps28
 go_wp2_with fail
 rw [← HV.out]
 go_wp2_with fail
 with_reducible refine (CK.out _ HI.out).mono ?_
 rintro e w8 ⟨v8, rfl, hs8, hb8, _⟩
 rw [← HK.out]
 have HS8 := Lib.hid hs8
 have HB8 := Lib.hid (below_step HB0.out hb8)
 clear hs8 hb8 p0 p1 p2
 go_wp2
 exact bodyPost_ret (v := .tuple #[.string K, v8]) (by simp [results, Tryz.results28, go_sem]) rfl ⟨v8, by rw [← HK.out], HS8.out, HB8.out⟩
end Go.Proofs.YtokknppjeckppaaGreatDoor
set_option linter.unusedVariables false
namespace Go.Proofs.YtokknppjeckppaaGreatDoor
open Go.RowKit
structure Kept (B : Nat) (w w' : World) : Prop where
 os : w'.os = w.os
 tape : w'.tape = w.tape
 output : w'.output = w.output
 size : w.heap.size ≤ w'.heap.size
 block : ∀ b, b < w.heap.size → (b < B ∨ ∃ xs T, Row w b xs T ∧ T ≠ 9) → w'.heap[b]? = w.heap[b]?
theorem Kept.refl (B : Nat) (w : World) : Kept B w w := ⟨rfl, rfl, rfl, Nat.le_refl _, fun _ _ _ => rfl⟩
theorem Kept.of_below {B : Nat} {w w' : World} (h : Below w.heap.size w w') : Kept B w w' := ⟨h.os, h.tape, h.output, h.size, fun b hb _ => h.block b hb⟩
theorem row_kept {B b : Nat} {w w' : World} {xs : Array Value} {T : TypeId} (hr : Row w b xs T) (hT : T ≠ 9) (h : Kept B w w') : Row w' b xs T := (h.block b hr.lt (.inr ⟨xs, T, hr, hT⟩)).trans hr
theorem Kept.trans {B : Nat} {a b c : World} (h : Kept B a b) (k : Kept B b c) : Kept B a c :=
 ⟨k.os.trans h.os, k.tape.trans h.tape, k.output.trans h.output, Nat.le_trans h.size k.size, fun i hi hp => by
  refine (k.block i (Nat.lt_of_lt_of_le hi h.size) ?_).trans (h.block i hi hp)
  rcases hp with hp | ⟨xs, T, hr, hT⟩
  ·exact .inl hp
  ·exact .inr ⟨xs, T, row_kept hr hT h, hT⟩⟩
theorem Kept.step {B : Nat} {a b c : World} (h : Kept B a b) (k : Below b.heap.size b c) : Kept B a c := h.trans (Kept.of_below k)
theorem Kept.grown {B : Nat} {w w' : World} {row : Option Nat} (hg : w.grownBy w' row) (hr : ∀ g, row = some g → B ≤ g ∧ ∃ xs, Row w g xs 9) : Kept B w w' :=
 ⟨hg.os, hg.tape, hg.output, hg.size, fun b hb hp => hg.block b hb (fun e => by
  obtain ⟨h1, xs, h2⟩ := hr b e.symm
  rcases hp with hp | ⟨ys, T, h3, hT⟩
  ·omega
  ·have h4 := (show w.heap[b]? = _ from h2).symm.trans (show w.heap[b]? = _ from h3)
   cases h4; exact hT rfl)⟩
theorem Kept.later {B : Nat} {a w w' : World} {row : Option Nat} (h : Kept B a w) (hg : w.grownBy w' row) (hr : ∀ g, row = some g → a.heap.size ≤ g) : Kept B a w' :=
 ⟨hg.os.trans h.os, hg.tape.trans h.tape, hg.output.trans h.output, Nat.le_trans h.size hg.size, fun b hb hp =>
  (hg.block b (Nat.lt_of_lt_of_le hb h.size) (fun e => by have := hr b e.symm; omega)).trans (h.block b hb hp)⟩
theorem Kept.below {B : Nat} {a w w' : World} (h : Kept B w w') (hb : Below B a w) (hs : B ≤ w.heap.size) : Below B a w' :=
 hb.trans ⟨h.os, h.tape, h.output, h.size, fun k hk => h.block k (Nat.lt_of_lt_of_le hk hs) (.inl hk)⟩
theorem OwnE.kept {B C : Nat} {w w' : World} {v : Value} {L : List En} (h : OwnE C w v L) (hk : Kept B w w') : OwnE C w' v L := by
 refine ⟨h.1, ?_⟩
 rcases h.2 with h2 | ⟨g, cap, cur, h3, h4, h5, h6⟩
 ·exact .inl h2
 ·exact .inr ⟨g, cap, cur, h3, h4, row_kept (B := B) (xs := cur) (T := 91) h5 (by decide) hk, h6⟩
theorem OwnP.kept {B C : Nat} {w w' : World} {v : Value} {L : List Pt} (h : OwnP C w v L) (hk : Kept B w w') : OwnP C w' v L := by
 refine ⟨h.1, ?_⟩
 rcases h.2 with h2 | ⟨g, cap, cur, h3, h4, h5, h6⟩
 ·exact .inl h2
 ·exact .inr ⟨g, cap, cur, h3, h4, row_kept (B := B) (xs := cur) (T := 87) h5 (by decide) hk, h6⟩
theorem OwnTxt.row {W w : World} {v : Value} {M : List (List UInt8)} (h : OwnTxt W w v M) {g : Nat} (hg : v.ownBlock = some g) : W.heap.size ≤ g ∧ ∃ xs, Row w g xs 9 := by
 rcases h.2 with ⟨rfl, _⟩ | ⟨g', cap, cur, rfl, h4, h5, _⟩
 ·cases hg
 ·cases hg; exact ⟨h4, _, h5⟩
theorem OwnTxt.turn {W w w' : World} {v : Value} {M : List (List UInt8)} (h : OwnTxt W w v M) {b : Nat} {xs : Array Value} {T : TypeId} (hr : Row w b xs T) (hT : T ≠ 9) (hg : w.grownBy w' (some b)) : OwnTxt W w' v M :=
 World.ownsRow.kept h hg (by
  cases hv : v.ownBlock with
  | none => exact .inl rfl
  | some k =>
   refine .inr fun e => ?_
   cases e
   obtain ⟨_, ys, h2⟩ := h.row hv
   have h4 := (show w.heap[b]? = _ from h2).symm.trans (show w.heap[b]? = _ from hr)
   cases h4; exact hT rfl)
theorem wpList_append_txt_at {ops : Array Oper} {rest : List Oper} {o : Oper} {a : Act} {W w0 : World} {z : Nat} {Q : Exit → Act → World → Prop} (hgd : o.guard = none) (s x : Operand)
  (ho : o.op = .call { callee := .builtin .append, args := #[s, x], argTypes := #[23, 23] })
  {v : Value} {M : List (List UInt8)} {y : ByteArray} (hown : OwnTxt W w0 v M) (hbs : W.heap.size ≤ w0.heap.size) (hz : z = w0.heap.size) (hs : a.eval s = v)
  (hx : a.eval x = .slice (some ⟨z, 0, none⟩) 1 1) (hlen : M.length ≤ 1000000)
  (h : ∀ v' w', OwnTxt W w' v' (M ++ [y.data.toList]) → w0.grownBy w' v.ownBlock → (v'.ownBlock = v.ownBlock ∨ ∃ g, v'.ownBlock = some g ∧ w0.heap.size ≤ g) → wpList Tryz.prog ops Q rest (a.put o.dst v') w') :
  wpList Tryz.prog ops Q (o :: rest) a (w0.alloc (.cells #[.string y] 9)) := by
 subst hz
 obtain ⟨i0, hi, hz0, hz1, hz2⟩ := info_parts infoStr
 refine wpList_plain hgd fun K hK => ?_
 obtain ⟨v', w', hr, h2, h3, _, h5⟩ := run_append_own_at (P := Tryz.prog) (w0.alloc (.cells #[.string y] 9)) W.heap.size 23 o.type 9 i0 (.string ⟨#[]⟩) 1 16 Tryz.underlying23 hi hz0 hz1 hz2 rfl (by decide) v (strsOf M).length (strCells (strsOf M)) (World.ownsRow.alloc hown _) ⟨w0.heap.size, 0, none⟩ 1 1 [.string y] rfl cell_one
  (fun u hu => by simp at hu; subst hu; rfl) (by rw [strsOf_len]; unfold maxLen; omega) (by rw [strsOf_len]; omega) (by simp; omega)
 unfold Oper.wp execOp
 simp only [ho, resolve, invoke, builtin, Sem.run_bind, Sem.run_pure, Result.andThen_ok, List.map_toArray, List.map_cons, List.map_nil, hs, hx, hr]
 refine hK _ _ (h v' w' ?_ (grown_after (grownBy_alloc w0 _) h3) ?_)
 ·unfold OwnTxt
  rw [strsOf_snoc, txt_str, List.length_append, strCells_app]; exact h2
 ·refine h5.imp id fun e => ⟨_, e, ?_⟩
  simp
end Go.Proofs.YtokknppjeckppaaGreatDoor
set_option linter.unusedVariables false
namespace Go.Proofs.YtokknppjeckppaaGreatDoor
open Go.RowKit
attribute [local go_sem] Oper.semAt_some
abbrev zeroNV : Value := .agg #[.int .i64 0, .string ⟨#[]⟩, .slice none 0 0, .slice none 0 0]
def RetLd (r : Except Int Nd) (w : World) (e : Ending) (w' : World) : Prop :=
 (∃ n pv ev, r = .ok n ∧ e = .returned (.tuple #[ndV n pv ev, .nilIface]) ∧ OwnP w.heap.size w' pv n.ps ∧ OwnE w.heap.size w' ev n.es ∧ Below w.heap.size w w')
 ∨ ∃ k s, r = .error k ∧ k ∈ wrongs ∧ e = .returned (.tuple #[zeroNV, faultV s k]) ∧ Below w.heap.size w w'
theorem RetLd.bad {r : Except Int Nd} {k : Int} {s : ByteArray} {w w' : World} (h : r = .error k) (hk : k ∈ wrongs) (hb : Below w.heap.size w w') :
  RetLd r w (.returned (.tuple #[zeroNV, faultV s k])) w' := .inr ⟨k, s, h, hk, rfl, hb⟩
noncomputable def readE (O : List Ob) (t : List UInt8) : Except Int Nd := match getO O t with
 | none => .error 5
 | some y => match readN y.u with
  | none => .error 2
  | some n => .ok n
theorem readE_none {O : List Ob} {t : List UInt8} (h : getO O t = none) : readE O t = .error 5 := by unfold readE; rw [h]
theorem readE_bad {O : List Ob} {t : List UInt8} {y : Ob} (h : getO O t = some y) (hn : readN y.u = none) : readE O t = .error 2 := by unfold readE; rw [h]; simp only [hn]
theorem readE_ok {O : List Ob} {t : List UInt8} {y : Ob} {n : Nd} (h : getO O t = some y) (hn : readN y.u = some n) : readE O t = .ok n := by unfold readE; rw [h]; simp only [hn]
set_option maxRecDepth 100000 in
set_option maxHeartbeats 4000000 in
theorem read_any (v : Value) (L : List Ob) (s : ByteArray) (w : World) (h : IsObs w v L) (hr : RiseO L) (hl : L.length ≤ 1000000) (hz : ∀ y ∈ L, y.r.size ≤ 1000000) (hT : ErrT w) :
  Calls Tryz.prog 73 #[v, .string s] w (RetLd (readE L s.data.toList) w) := by
 have hb0 := (Below.refl w.heap.size w).alloc (Nat.le_refl _) (.cells #[.int .i64 0, .string ⟨#[]⟩, .slice none 0 0, .slice none 0 0] 53)
 have HX := Lib.hid (Row.made w #[.int .i64 0, .string ⟨#[]⟩, .slice none 0 0, .slice none 0 0] 53)
 have HT := Lib.hid (hT.stays hb0)
 have CG := Lib.hid (pGet_any v L s _ (h.stays hb0) hr hl)
 have HLT : Hid (w.heap.size < (w.alloc (.cells #[.int .i64 0, .string ⟨#[]⟩, .slice none 0 0, .slice none 0 0] 53)).heap.size) := Lib.hid (by simp)
 have HB0 := Lib.hid hb0
 clear h hT hb0
 cases hg : getO L s.data.toList with
 | none =>
  have HE := Lib.hid (readE_none hg)
  rw [hg] at CG
  simp only [Option.isSome_none] at CG
  obtain ⟨x, hx⟩ : ∃ x, x = gotO L s.data.toList := ⟨_, rfl⟩
  rw [← hx] at CG
  clear hg hx hr hz
  go_enter Tryz.func73, Tryz.ntmps73
  go_wp2_with fail
  refine CG.out.mono ?_
  rintro e w1 ⟨rfl, hb1⟩
  have HB1 := Lib.hid (below_step HB0.out hb1)
  have hX1 := HX.out.step hb1
  have HX1 := Lib.hid hX1
  have p0 := hX1.cell 0; have p1 := hX1.cell 1; have p2 := hX1.cell 2; have p3 := hX1.cell 3
  have f0 := hX1.free 0; have f1 := hX1.free 1; have f2 := hX1.free 2; have f3 := hX1.free 3
  simp only [List.getElem?_toArray, List.getElem?_cons_zero, List.getElem?_cons_succ] at p0 p1 p2 p3
  have hlx := hX1.lt
  clear hb1 hX1
  go_wp2
  have hR4 := row4_row HX1.out (.int .i64 0) (.string ⟨#[]⟩) (.slice none 0 0) (.slice none 0 0)
  have d0 := hR4.cell 0; have d1 := hR4.cell 1; have d2 := hR4.cell 2; have d3 := hR4.cell 3
  simp only [List.getElem?_toArray, List.getElem?_cons_zero, List.getElem?_cons_succ] at d0 d1 d2 d3
  have hbe := ((((HB1.out.setCell (p := ⟨w.heap.size, 0, none⟩) (Nat.le_refl _) (.int .i64 0)).setCell (p := ⟨w.heap.size, 1, none⟩) (Nat.le_refl _) (.string ⟨#[]⟩)).setCell (p := ⟨w.heap.size, 2, none⟩) (Nat.le_refl _) (.slice none 0 0)).setCell (p := ⟨w.heap.size, 3, none⟩) (Nat.le_refl _) (.slice none 0 0))
  refine bodyPost_ret (v := .tuple #[.agg #[.int .i64 0, .string ⟨#[]⟩, .slice none 0 0, .slice none 0 0], faultV s 5]) (by simp [results, Tryz.results73, go_sem, d0, d1, d2, d3]) rfl ?_
  exact RetLd.bad HE.out (by decide) hbe
 | some y =>
  have hy := (getO_some hr).1 hg
  have HZ := Lib.hid (hz y hy.1)
  have hgo : gotO L s.data.toList = y.r := by unfold gotO; rw [hg]; rfl
  have HG := Lib.hid hg
  rw [hg, hgo] at CG
  simp only [Option.isSome_some] at CG
  clear hr hz hg hgo hy
  go_enter Tryz.func73, Tryz.ntmps73
  go_wp2_with fail
  refine CG.out.mono ?_
  rintro e w1 ⟨rfl, hb1⟩
  have HB1 := Lib.hid (below_step HB0.out hb1)
  have HX1 := Lib.hid (HX.out.step hb1)
  have HL1 := Lib.hid (Nat.lt_of_lt_of_le HLT.out hb1.size)
  have CR := Lib.hid (pReadO_any y.r HZ.out w1 (HT.out.stays hb1))
  clear hb1
  go_wp2_with fail
  refine CR.out.mono ?_
  rintro e w2 ⟨n, k, hrd, pv, ev, rfl, hpv, hev, hb2⟩
  have HB2 := Lib.hid (below_step HB1.out hb2)
  have hX2 := HX1.out.step hb2
  obtain ⟨_, a1, cap1, hv1, _, _⟩ := hpv.is
  obtain ⟨_, a2, cap2, hv2, _, _⟩ := hev.is
  have HP := Lib.hid hpv; have HV := Lib.hid hev
  clear hpv hev
  obtain ⟨z1, hz1⟩ : ∃ z, z = n.ps.length := ⟨_, rfl⟩
  obtain ⟨z2, hz2⟩ : ∃ z, z = n.es.length := ⟨_, rfl⟩
  rw [← hz1] at hv1; rw [← hz2] at hv2
  clear hz1 hz2
  subst hv1 hv2
  rcases readN_rd hrd with ⟨rfl, hn⟩ | ⟨rfl, rfl, hn⟩
  ·have HE := Lib.hid (readE_ok HG.out hn)
   have HX2 := Lib.hid hX2
   have p0 := hX2.cell 0; have p1 := hX2.cell 1; have p2 := hX2.cell 2; have p3 := hX2.cell 3
   have f0 := hX2.free 0; have f1 := hX2.free 1; have f2 := hX2.free 2; have f3 := hX2.free 3
   simp only [List.getElem?_toArray, List.getElem?_cons_zero, List.getElem?_cons_succ] at p0 p1 p2 p3
   have hlx := hX2.lt
   have HL1S := Lib.hid (show w.heap.size < w1.heap.size from HL1.out)
   clear hrd hn hb2 hX2
   go_wp2
   have hR4 := (row4_row HX2.out (.int .i64 n.kd) (.string n.d) (.slice a1 z1 cap1) (.slice a2 z2 cap2)).alloc (.cells #[.int .i64 n.kd, .string n.d, .slice a1 z1 cap1, .slice a2 z2 cap2] 53)
   have d0 := hR4.cell 0; have d1 := hR4.cell 1; have d2 := hR4.cell 2; have d3 := hR4.cell 3
   simp only [List.getElem?_toArray, List.getElem?_cons_zero, List.getElem?_cons_succ] at d0 d1 d2 d3
   have hbe := (((((HB2.out.setCell (p := ⟨w.heap.size, 0, none⟩) (Nat.le_refl _) (.int .i64 n.kd)).setCell (p := ⟨w.heap.size, 1, none⟩) (Nat.le_refl _) (.string n.d)).setCell (p := ⟨w.heap.size, 2, none⟩) (Nat.le_refl _) (.slice a1 z1 cap1)).setCell (p := ⟨w.heap.size, 3, none⟩) (Nat.le_refl _) (.slice a2 z2 cap2))).alloc (by have := HB2.out.size; simpa [World.setCell] using this) (.cells #[.int .i64 n.kd, .string n.d, .slice a1 z1 cap1, .slice a2 z2 cap2] 53)
   refine bodyPost_ret (v := .tuple #[.agg #[.int .i64 n.kd, .string n.d, .slice a1 z1 cap1, .slice a2 z2 cap2], .nilIface]) (by simp [results, Tryz.results73, go_sem, d0, d1, d2, d3]) rfl ?_
   refine .inl ⟨n, _, _, HE.out, rfl, ?_, ?_, hbe⟩
   ·exact World.ownsRow.alloc (((((HP.out.setBelow (a := ⟨w.heap.size, 0, none⟩) HL1S.out _).setBelow (a := ⟨w.heap.size, 1, none⟩) HL1S.out _).setBelow (a := ⟨w.heap.size, 2, none⟩) HL1S.out _).setBelow (a := ⟨w.heap.size, 3, none⟩) HL1S.out _).low (Nat.le_of_lt HL1S.out)) _
   ·exact World.ownsRow.alloc (((((HV.out.setBelow (a := ⟨w.heap.size, 0, none⟩) HL1S.out _).setBelow (a := ⟨w.heap.size, 1, none⟩) HL1S.out _).setBelow (a := ⟨w.heap.size, 2, none⟩) HL1S.out _).setBelow (a := ⟨w.heap.size, 3, none⟩) HL1S.out _).low (Nat.le_of_lt HL1S.out)) _
  ·have HE := Lib.hid (readE_bad HG.out hn)
   have HX2 := Lib.hid hX2
   have p0 := hX2.cell 0; have p1 := hX2.cell 1; have p2 := hX2.cell 2; have p3 := hX2.cell 3
   have f0 := hX2.free 0; have f1 := hX2.free 1; have f2 := hX2.free 2; have f3 := hX2.free 3
   simp only [List.getElem?_toArray, List.getElem?_cons_zero, List.getElem?_cons_succ] at p0 p1 p2 p3
   have hlx := hX2.lt
   clear hrd hn hb2 hX2
   go_wp2
   have hR4 := (row4_row HX2.out (.int .i64 0) (.string ⟨#[]⟩) (.slice none 0 0) (.slice none 0 0)).alloc (.cells #[.int .i64 zeroNd.kd, .string zeroNd.d, .slice a1 z1 cap1, .slice a2 z2 cap2] 53)
   have d0 := hR4.cell 0; have d1 := hR4.cell 1; have d2 := hR4.cell 2; have d3 := hR4.cell 3
   simp only [List.getElem?_toArray, List.getElem?_cons_zero, List.getElem?_cons_succ] at d0 d1 d2 d3
   have hbe := (((((HB2.out.setCell (p := ⟨w.heap.size, 0, none⟩) (Nat.le_refl _) (.int .i64 0)).setCell (p := ⟨w.heap.size, 1, none⟩) (Nat.le_refl _) (.string ⟨#[]⟩)).setCell (p := ⟨w.heap.size, 2, none⟩) (Nat.le_refl _) (.slice none 0 0)).setCell (p := ⟨w.heap.size, 3, none⟩) (Nat.le_refl _) (.slice none 0 0))).alloc (by have := HB2.out.size; simpa [World.setCell] using this) (.cells #[.int .i64 zeroNd.kd, .string zeroNd.d, .slice a1 z1 cap1, .slice a2 z2 cap2] 53)
   refine bodyPost_ret (v := .tuple #[.agg #[.int .i64 0, .string ⟨#[]⟩, .slice none 0 0, .slice none 0 0], faultV s 2]) (by simp [results, Tryz.results73, go_sem, d0, d1, d2, d3]) rfl ?_
   exact RetLd.bad HE.out (by decide) hbe
structure Wf (N Bw : Nat) (w w' : World) : Prop where
 os : w'.os = w.os
 tape : w'.tape = w.tape
 output : w'.output = w.output
 size : w.heap.size ≤ w'.heap.size
 block : ∀ b, b < N → b ≠ Bw → w'.heap[b]? = w.heap[b]?
theorem Wf.refl (N Bw : Nat) (w : World) : Wf N Bw w w := ⟨rfl, rfl, rfl, Nat.le_refl _, fun _ _ _ => rfl⟩
theorem Wf.of_below {N M Bw : Nat} {w w' : World} (h : Below M w w') (hN : N ≤ M) (hs : w.heap.size ≤ w'.heap.size) : Wf N Bw w w' := ⟨h.os, h.tape, h.output, hs, fun b hb _ => h.block b (Nat.lt_of_lt_of_le hb hN)⟩
theorem Wf.trans {N Bw : Nat} {a b c : World} (h : Wf N Bw a b) (k : Wf N Bw b c) : Wf N Bw a c :=
 ⟨k.os.trans h.os, k.tape.trans h.tape, k.output.trans h.output, Nat.le_trans h.size k.size, fun i hi hn => (k.block i hi hn).trans (h.block i hi hn)⟩
theorem Wf.set {N Bw i : Nat} {w : World} (u : Value) : Wf N Bw w (w.setCell ⟨Bw, i, none⟩ u) := ⟨rfl, rfl, rfl, by simp [World.setCell], fun b hb hn => heap_setCell_other _ _ _ _ hn⟩
theorem Wf.low {N M Bw : Nat} {w w' : World} (h : Wf M Bw w w') (hN : N ≤ M) : Wf N Bw w w' := ⟨h.os, h.tape, h.output, h.size, fun b hb hn => h.block b (Nat.lt_of_lt_of_le hb hN) hn⟩
theorem Wf.row {N Bw b : Nat} {w w' : World} {xs : Array Value} {T : TypeId} (h : Wf N Bw w w') (hr : Row w b xs T) (hb : b < N) (hn : b ≠ Bw) : Row w' b xs T := (h.block b hb hn).trans hr
theorem Wf.below {N B Bw : Nat} {a w w' : World} (h : Wf N Bw w w') (hb : Below B a w) (hN : B ≤ N) (hB : B ≤ Bw) : Below B a w' :=
 hb.trans ⟨h.os, h.tape, h.output, h.size, fun k hk => h.block k (Nat.lt_of_lt_of_le hk hN) (by omega)⟩
theorem Wf.owns {N Bw C : Nat} {w w' : World} {T : TypeId} {k n : Nat} {v : Value} {xs : List Value} (h : Wf N Bw w w') (ho : w.ownsRow C T k v n xs) (hN : ∀ g, v.ownBlock = some g → g < N) (hn : v.ownBlock ≠ some Bw) : w'.ownsRow C T k v n xs := by
 refine ⟨ho.1, ?_⟩
 rcases ho.2 with h2 | ⟨g, cap, cur, h3, h4, h5, h6⟩
 ·exact .inl h2
 ·exact .inr ⟨g, cap, cur, h3, h4, (h.block g (hN g (by rw [h3]; rfl)) (fun e => hn (by rw [h3, e]; rfl))).trans h5, h6⟩
theorem owns_apart {w : World} {C : Nat} {T U : TypeId} {k n : Nat} {v : Value} {xs : List Value} (ho : w.ownsRow C T k v n xs) {A : Nat} {ys : Array Value} (hA : Row w A ys U) (hT : U ≠ T) : v.ownBlock ≠ some A := fun e => by
 rcases ho.2 with ⟨rfl, _⟩ | ⟨g, cap, cur, rfl, _, hg, _⟩
 ·cases e
 ·cases e
  rw [show w.heap[g]? = _ from hA] at hg
  cases hg; exact hT rfl
section
variable {W0 : World} {Bw : Nat} {vO : Value} {O : List Ob} {w w' : World} {M : List It} {sz : Nat} {vI : Value}
end
end Go.Proofs.YtokknppjeckppaaGreatDoor
set_option linter.unusedVariables false
namespace Go.Proofs.YtokknppjeckppaaGreatDoor
open Go Go.RowKit Go.Maps
attribute [local go_sem] Oper.semAt_some
def addQ (Q L : List Txt) : List Txt := L.foldl (fun Q k => if k ∈ Q then Q else Q ++ [k]) Q
theorem addQ_snoc (Q L : List Txt) (k : Txt) : addQ Q (L ++ [k]) = if k ∈ addQ Q L then addQ Q L else addQ Q L ++ [k] := by unfold addQ; rw [List.foldl_append]; rfl
theorem addQ_take {Q L : List Txt} {j : Nat} (hj : j < L.length) : addQ Q (L.take (j + 1)) = if L[j] ∈ addQ Q (L.take j) then addQ Q (L.take j) else addQ Q (L.take j) ++ [L[j]] := by
 rw [List.take_succ_eq_append_getElem hj, addQ_snoc]
theorem mem_addQ {t : Txt} : ∀ {L Q : List Txt}, t ∈ addQ Q L ↔ t ∈ Q ∨ t ∈ L
 | [], Q => by simp [addQ]
 | k :: L, Q => by
  show t ∈ addQ (if k ∈ Q then Q else Q ++ [k]) L ↔ _
  rw [mem_addQ (L := L)]
  by_cases h : k ∈ Q
  ·rw [if_pos h]
   simp only [List.mem_cons]
   constructor
   ·rintro (h1 | h1)
    ·exact .inl h1
    ·exact .inr (.inr h1)
   ·rintro (h1 | rfl | h1)
    ·exact .inl h1
    ·exact .inl h
    ·exact .inr h1
  ·rw [if_neg h]
   simp only [List.mem_append, List.mem_cons, List.not_mem_nil, or_false]
   constructor
   ·rintro ((h1 | h1) | h1)
    ·exact .inl h1
    ·exact .inr (.inl h1)
    ·exact .inr (.inr h1)
   ·rintro (h1 | h1 | h1)
    ·exact .inl (.inl h1)
    ·exact .inl (.inr h1)
    ·exact .inr h1
theorem addQ_nodup : ∀ {L Q : List Txt}, Q.Nodup → (addQ Q L).Nodup
 | [], Q, h => h
 | k :: L, Q, h => by
  show (addQ (if k ∈ Q then Q else Q ++ [k]) L).Nodup
  refine addQ_nodup ?_
  by_cases hk : k ∈ Q
  ·rw [if_pos hk]; exact h
  ·rw [if_neg hk, List.nodup_append]
   refine ⟨h, by simp, ?_⟩
   intro a ha b hb e
   simp at hb
   subst hb e
   exact hk ha
theorem addQ_grows : ∀ {L Q : List Txt}, ∃ R, addQ Q L = Q ++ R
 | [], Q => ⟨[], by simp [addQ]⟩
 | k :: L, Q => by
  obtain ⟨R, hR⟩ := addQ_grows (L := L) (Q := if k ∈ Q then Q else Q ++ [k])
  have e : addQ Q (k :: L) = addQ (if k ∈ Q then Q else Q ++ [k]) L := rfl
  rw [e, hR]
  by_cases hk : k ∈ Q
  ·rw [if_pos hk]; exact ⟨R, rfl⟩
  ·rw [if_neg hk]; exact ⟨k :: R, by simp⟩
theorem strK : Keyed Tryz.prog 9 := string_keyed Tryz.underlying9
theorem zeroUnit (w : World) : (zeroValue 143).run Tryz.prog w = .ok (.agg #[]) w := by kernel_rfl
def SetM (w : World) (Bm : Nat) (Q : List Txt) : Prop := ∃ D : DataW Unit, w.ownsMap Tryz.prog 9 unitElem Bm Q.length D ∧ ∀ x : Txt, Maps.has D (.string x) = decide (x ∈ Q)
theorem SetM.block {w : World} {Bm : Nat} {Q : List Txt} (h : SetM w Bm Q) : ∃ es cl, w.heap[Bm]? = some (.map es cl) := by
 obtain ⟨D, ⟨es, cl, hb, _⟩, _⟩ := h
 exact ⟨es, cl, hb⟩
theorem SetM.kept {w w' : World} {Bm : Nat} {Q : List Txt} {r : Option Nat} (h : SetM w Bm Q) (hg : w.grownBy w' r) (hne : some Bm ≠ r) : SetM w' Bm Q := by
 obtain ⟨D, h1, h2⟩ := h
 exact ⟨D, h1.kept hg hne, h2⟩
theorem row_ne_map {w : World} {b Bm : Nat} {xs : Array Value} {T : TypeId} (h : Row w b xs T) {Q : List Txt} (hm : SetM w Bm Q) : b ≠ Bm := fun e => by
 obtain ⟨es, cl, hb⟩ := hm.block
 subst e
 rw [show w.heap[b]? = _ from h] at hb
 cases hb
theorem owns_ne_map {w : World} {C : Nat} {T : TypeId} {k n : Nat} {v : Value} {xs : List Value} (ho : w.ownsRow C T k v n xs) {Bm : Nat} {Q : List Txt} (hm : SetM w Bm Q) : v.ownBlock ≠ some Bm := fun e => by
 obtain ⟨es, cl, hb⟩ := hm.block
 rcases ho.2 with ⟨rfl, _⟩ | ⟨g, cap, cur, rfl, _, hg, _⟩
 ·cases e
 ·cases e
  rw [hg] at hb
  cases hb
structure Que (W0 : World) (Bq Bm : Nat) (w : World) (Q : List Txt) (vQ : Value) : Prop where
 row : Row w Bq #[vQ, .map (some Bm)] 134
 list : OwnTxt W0 w vQ Q
 set : SetM w Bm Q
 fq : W0.heap.size ≤ Bq
 fm : W0.heap.size ≤ Bm
 below : Below W0.heap.size W0 w
structure Qk (B Bq Bm : Nat) (w w' : World) : Prop where
 os : w'.os = w.os
 tape : w'.tape = w.tape
 output : w'.output = w.output
 size : w.heap.size ≤ w'.heap.size
 block : ∀ b, b < w.heap.size → b ≠ Bq → b ≠ Bm → (b < B ∨ ∀ xs, ¬ Row w b xs 9) → w'.heap[b]? = w.heap[b]?
theorem Qk.refl (B Bq Bm : Nat) (w : World) : Qk B Bq Bm w w := ⟨rfl, rfl, rfl, Nat.le_refl _, fun _ _ _ _ _ => rfl⟩
theorem Qk.of_below {B Bq Bm : Nat} {w w' : World} (h : Below w.heap.size w w') : Qk B Bq Bm w w' := ⟨h.os, h.tape, h.output, h.size, fun b hb _ _ _ => h.block b hb⟩
theorem Qk.trans {B Bq Bm : Nat} {a b c : World} (h : Qk B Bq Bm a b) (k : Qk B Bq Bm b c) : Qk B Bq Bm a c :=
 ⟨k.os.trans h.os, k.tape.trans h.tape, k.output.trans h.output, Nat.le_trans h.size k.size, fun i hi hn hm hp => by
  have e := h.block i hi hn hm hp
  refine (k.block i (Nat.lt_of_lt_of_le hi h.size) hn hm ?_).trans e
  rcases hp with hp | hp
  ·exact .inl hp
  ·exact .inr fun xs hr => hp xs (e.symm.trans (show b.heap[i]? = _ from hr))⟩
theorem Qk.step {B Bq Bm : Nat} {a b c : World} (h : Qk B Bq Bm a b) (k : Below b.heap.size b c) : Qk B Bq Bm a c := h.trans (Qk.of_below k)
theorem Qk.row {B Bq Bm b : Nat} {w w' : World} {xs : Array Value} {T : TypeId} (h : Qk B Bq Bm w w') (hr : Row w b xs T) (hT : T ≠ 9) (hn : b ≠ Bq) (hm : b ≠ Bm) : Row w' b xs T :=
 (h.block b hr.lt hn hm (.inr fun ys hy => by have e := (show w.heap[b]? = _ from hr).symm.trans (show w.heap[b]? = _ from hy); cases e; exact hT rfl)).trans hr
theorem Qk.turn {B Bq Bm : Nat} {w w' : World} {r : Option Nat} (hg : w.grownBy w' r) (hr : ∀ g, r = some g → g = Bq ∨ g = Bm ∨ B ≤ g ∧ ∃ xs, Row w g xs 9) : Qk B Bq Bm w w' :=
 ⟨hg.os, hg.tape, hg.output, hg.size, fun b hb hn hm hp => hg.block b hb (fun e => by
  rcases hr b e.symm with h1 | h1 | ⟨h1, xs, h2⟩
  ·exact hn h1
  ·exact hm h1
  ·rcases hp with hp | hp
   ·omega
   ·exact hp xs h2)⟩
theorem Qk.below {B Bq Bm : Nat} {a w w' : World} (h : Qk B Bq Bm w w') (hb : Below B a w) (hs : B ≤ w.heap.size) (hB : B ≤ Bq) (hM : B ≤ Bm) : Below B a w' :=
 hb.trans ⟨h.os, h.tape, h.output, h.size, fun k hk => h.block k (Nat.lt_of_lt_of_le hk hs) (by omega) (by omega) (.inl hk)⟩
theorem Que.stays {W0 : World} {Bq Bm : Nat} {w w' : World} {Q : List Txt} {vQ : Value} (h : Que W0 Bq Bm w Q vQ) (hb : Below w.heap.size w w') : Que W0 Bq Bm w' Q vQ :=
 ⟨h.row.step hb, h.list.stays hb, h.set.kept (grownBy_of_below hb) (by simp), h.fq, h.fm, below_step h.below hb⟩
structure AddL (W0 Wl : World) (Bq Bm : Nat) (w : World) (Q0 L : List Txt) (vl : Value) (j : Nat) (vQ : Value) (wr : World) : Prop where
 que : Que W0 Bq Bm wr (addQ Q0 (L.take j)) vQ
 lst : OwnTxt Wl wr vl L
 ap : ∀ g, vl.ownBlock = some g → vQ.ownBlock ≠ some g
 wk : Qk W0.heap.size Bq Bm w wr
theorem owns_block {w : World} {C : Nat} {T : TypeId} {k n : Nat} {v : Value} {xs : List Value} (ho : w.ownsRow C T k v n xs) {w' : World} (hs : ∀ g, v.ownBlock = some g → w'.heap[g]? = w.heap[g]?) : w'.ownsRow C T k v n xs := by
 refine ⟨ho.1, ?_⟩
 rcases ho.2 with h2 | ⟨g, cap, cur, h3, h4, h5, h6⟩
 ·exact .inl h2
 ·exact .inr ⟨g, cap, cur, h3, h4, (hs g (by rw [h3]; rfl)).trans h5, h6⟩
section
variable {W0 Wl : World} {Bq Bm : Nat} {wA w2 w3 : World} {Q L : List Txt} {vQ v' vl : Value} {t : Txt} {D : DataW Unit} {d : DataW Unit}
theorem que_put (hq : Que W0 Bq Bm wA Q vQ) (hg : wA.grownBy w2 (some Bm)) (hl : OwnTxt Wl wA vl L) :
  Row w2 Bq #[vQ, .map (some Bm)] 134 ∧ OwnTxt W0 w2 vQ Q ∧ OwnTxt Wl w2 vl L ∧ Below W0.heap.size W0 w2 ∧ W0.heap.size ≤ w2.heap.size := by
 have hb := hq.below.grown hg hq.below.size (fun g e => by cases e; exact hq.fm)
 refine ⟨(hg.block Bq hq.row.lt (fun e => row_ne_map hq.row hq.set (by cases e; rfl))).trans hq.row, World.ownsRow.kept hq.list hg (.inr (owns_ne_map hq.list hq.set)), World.ownsRow.kept hl hg (.inr (owns_ne_map hl hq.set)), hb, hb.size⟩
theorem own_setQ {C : World} {w : World} {v : Value} {M : List Txt} {xs : Array Value} {i : Nat} (h : OwnTxt C w v M) (hr : Row w Bq xs 134) (u : Value) : OwnTxt C (w.setCell ⟨Bq, i, none⟩ u) v M :=
 (Wf.set (N := w.heap.size) u).owns h (fun g hg => (World.ownsRow.lt h g hg).2) (owns_apart h hr (by decide))
theorem que_more (hq : Que W0 Bq Bm wA Q vQ) (hhas : ∀ x : Txt, Maps.has D (.string x) = decide (x ∈ Q)) (hD : IsMap D) (ho2 : w2.ownsMap Tryz.prog 9 unitElem Bm (Q.length + 1) (D.put (.string t) d)) (hg : wA.grownBy w2 (some Bm)) (hl : OwnTxt Wl wA vl L) (hap : ∀ g, vl.ownBlock = some g → vQ.ownBlock ≠ some g)
  (ho3 : OwnTxt W0 w3 v' (Q ++ [t])) (hg3 : w2.grownBy w3 vQ.ownBlock) (hat : v'.ownBlock = vQ.ownBlock ∨ ∃ g, v'.ownBlock = some g ∧ w2.heap.size ≤ g) :
  Row w3 Bq #[vQ, .map (some Bm)] 134 ∧ Que W0 Bq Bm (w3.setCell ⟨Bq, 0, none⟩ v') (Q ++ [t]) v' ∧ OwnTxt Wl (w3.setCell ⟨Bq, 0, none⟩ v') vl L ∧ (∀ g, vl.ownBlock = some g → v'.ownBlock ≠ some g) ∧ Qk W0.heap.size Bq Bm wA (w3.setCell ⟨Bq, 0, none⟩ v') := by
 obtain ⟨hr2, hq2, hl2, hb2, _⟩ := que_put hq hg hl
 have hne := owns_apart hq2 hr2 (by decide)
 have hr3 : Row w3 Bq #[vQ, .map (some Bm)] 134 := (hg3.block Bq hr2.lt (fun e => hne e.symm)).trans hr2
 have hrow : ∀ g, vQ.ownBlock = some g → W0.heap.size ≤ g ∧ ∃ xs, Row w2 g xs 9 := fun g e => hq2.row e
 have hbm : some Bm ≠ vQ.ownBlock := fun e => owns_ne_map hq.list hq.set e.symm
 have hl3 : OwnTxt Wl w3 vl L := World.ownsRow.kept hl2 hg3 (by
  cases hv : vl.ownBlock with
  | none => exact .inl rfl
  | some g => exact .inr (fun e => hap g hv e.symm))
 have hb3 := hb2.grown hg3 hb2.size (fun g e => (hrow g e).1)
 have hmq : Bm ≠ Bq := fun e => row_ne_map hq.row hq.set e.symm
 refine ⟨hr3, ⟨hr3.set 0 v', own_setQ ho3 hr3 v', ⟨D.put (.string t) d, ?_, fun x => ?_⟩, hq.fq, hq.fm, hb3.setCell (p := ⟨Bq, 0, none⟩) hq.fq _⟩, own_setQ hl3 hr3 v', fun g hvg => ?_, ?_⟩
 ·rw [List.length_append]
  exact (ho2.kept hg3 hbm).setCell (a := ⟨Bq, 0, none⟩) hmq v'
 ·by_cases hx : x = t
  ·subst hx
   rw [has_put_same hD (show WideAt.IsKeyLit (.string x) from trivial), decide_eq_true (by simp)]
  ·rw [has_put_other (fun e => hx (by cases e; rfl)), hhas x]
   exact decide_eq_decide.2 (by simp [hx])
 ·rcases hat with e | ⟨g', e, hlt⟩
  ·rw [e]; exact hap g hvg
  ·rw [e]
   intro e2
   cases e2
   have := (World.ownsRow.lt hl2 g hvg).2
   omega
 ·refine ((Qk.turn hg (fun g e => by cases e; exact .inr (.inl rfl))).trans (Qk.turn hg3 (fun g e => .inr (.inr (hrow g e))))).trans (Qk.turn (grownBy_set w3 Bq 0 v') (fun g e => by cases e; exact .inl rfl))
end
set_option maxRecDepth 100000 in
set_option maxHeartbeats 16000000 in
theorem fadd_any (W0 Wl : World) (Bq Bm : Nat) (Q0 L : List Txt) (vQ vl : Value) (w : World) (h : Que W0 Bq Bm w Q0 vQ) (hl : OwnTxt Wl w vl L) (hap : ∀ g, vl.ownBlock = some g → vQ.ownBlock ≠ some g) (h32 : ∀ t ∈ L, t.length = 32) (hn : ∀ j, (addQ Q0 (L.take j)).length ≤ 1000000) :
  Calls Tryz.prog 75 #[.pointer (some ⟨Bq, 0, none⟩), vl] w fun e w' => e = .returned (.tuple #[]) ∧ ∃ vQ', Que W0 Bq Bm w' (addQ Q0 L) vQ' ∧ Qk W0.heap.size Bq Bm w w' := by
 have HL0 : Hid (AddL W0 Wl Bq Bm w Q0 L vl 0 vQ w) := Lib.hid ⟨h, hl, hap, Qk.refl _ _ _ _⟩
 have H32 := Lib.hid h32; have HN := Lib.hid hn
 obtain ⟨hml, a, cap, hv, _, _⟩ := hl.strs
 rw [strsOf_len] at hv hml
 have hmm0 : L.length ≤ 9223372036854775807 := by unfold maxLen at hml; omega
 obtain ⟨z, hz⟩ : ∃ z, z = L.length := ⟨_, rfl⟩
 rw [← hz] at hv hmm0
 have HZ := Lib.hid hz
 clear h hl hap h32 hn hml hz
 subst hv
 go_enter Tryz.func75, Tryz.ntmps75
 go_wp2_with fail
 go_loopw [10] (fun i wr => ∃ (j : Nat) (vQ : Value), j ≤ z ∧ i = .int .i64 j ∧ AddL W0 Wl Bq Bm w Q0 L (.slice a z cap) j vQ wr) (fun i _ => z - (intOf i).toNat)
 case atStart => exact ⟨0, vQ, Nat.zero_le _, rfl, HL0.out⟩
 case round =>
  obtain ⟨j, vQ, hj, rfl, hL⟩ := hrel
  have HL := Lib.hid hL
  clear hL
  by_cases hlt : j < z
  ·have hjl : j < L.length := by have := HZ.out; omega
   obtain ⟨_, _, _, hev, _, hc⟩ := HL.out.lst.strs
   rw [strsOf_len, ← HZ.out] at hev
   cases hev
   obtain ⟨b, off, rfl, hbl, g⟩ := hc (by rw [strsOf_len]; omega)
   have c0 := g j (by rw [strsOf_len]; exact hjl)
   rw [strsOf_get hjl] at c0
   have HST := Lib.hid (addQ_take (Q := Q0) hjl)
   have hx32 := H32.out _ (List.getElem_mem hjl)
   obtain ⟨t, ht⟩ : ∃ t, t = L[j] := ⟨_, rfl⟩
   rw [← ht] at c0 HST hx32
   obtain ⟨x, hx⟩ : ∃ x : ByteArray, x = ⟨t.toArray⟩ := ⟨_, rfl⟩
   rw [← hx] at c0
   have hxt : x.data.toList = t := by rw [hx]
   have hkey : keyOf Tryz.prog 9 (.string x) = some (.string t) := by
    rw [← hxt]
    exact Go.WideMaps.keyOf_string_mk Tryz.underlying9 (by rw [Lib.size_eq, hxt, hx32]; decide)
   clear ht g hc hx
   have HXT := Lib.hid hxt
   have hbk : decide ((j : Int) < (z : Int)) = true := by simpa using (show (j : Int) < z by omega)
   obtain ⟨D, hown, hhas⟩ := HL.out.que.set
   have hm := hhas t
   have HHAS := Lib.hid hhas
   have hr := HL.out.que.row
   have q0 : wr.cell? ⟨Bq, 0, none⟩ = some vQ := hr.cell 0
   have q1 : wr.cell? ⟨Bq, 1, none⟩ = some (.map (some Bm)) := hr.cell 1
   have hql := hr.lt
   have HBA := Lib.hid ((Below.refl wr.heap.size wr).alloc (Nat.le_refl _) (.cells #[] 143))
   obtain ⟨n, hnn⟩ : ∃ n, n = (addQ Q0 (L.take j)).length := ⟨_, rfl⟩
   have hn1 := HN.out j
   rw [← hnn] at hown hn1
   have HNN := Lib.hid hnn
   clear hhas hr hxt hnn
   by_cases hin : t ∈ addQ Q0 (L.take j)
   ·have hb : Maps.has D (.string t) = true := by rw [hm]; exact decide_eq_true hin
    have HS2 : Hid (addQ Q0 (L.take (j + 1)) = addQ Q0 (L.take j)) := Lib.hid (by rw [HST.out, if_pos hin])
    clear hm hin
    go_wp2_with (at_lookup; refine wpList_lookup_own_unit _ rfl _ _ 132 rfl 9 143 strK Tryz.underlying132 (zeroUnit _) Bm n D rfl hown _ _ rfl hkey ?_)
    go_roundw
    case rel =>
     refine ⟨j + 1, vQ, by omega, by go_num, ⟨?_, HL.out.lst.stays HBA.out, HL.out.ap, HL.out.wk.step HBA.out⟩⟩
     rw [HS2.out]; exact HL.out.que.stays HBA.out
    case measure => simp [intOf]; omega
   ·have hb : Maps.has D (.string t) = false := by rw [hm]; exact decide_eq_false hin
    have HS2 : Hid (addQ Q0 (L.take (j + 1)) = addQ Q0 (L.take j) ++ [t]) := Lib.hid (by rw [HST.out, if_neg hin])
    have HIN := Lib.hid hin
    clear hm hin
    have hD := hown.isMap
    have HQA := Lib.hid (HL.out.que.stays HBA.out); have HLA := Lib.hid (HL.out.lst.stays HBA.out)
    have HOW := Lib.hid (hown.alloc (.cells #[] 143))
    have HDD := Lib.hid hD
    clear hD
    go_wp2_with (first
     | (at_lookup; refine wpList_lookup_own_unit _ rfl _ _ 132 rfl 9 143 strK Tryz.underlying132 (zeroUnit _) Bm n D rfl hown _ _ rfl hkey ?_)
     | (at_mapUpdate; refine wpList_mapUpdate_own _ rfl _ _ _ 132 rfl 9 143 strK Tryz.underlying132 (unitElem (H := Unit)) Bm n D rfl HOW.out (by unfold maxLen; omega) _ _ _ rfl rfl hkey _ [] unitElem_mk ?_))
    intro w2 ho2 hg2
    have HO2 := Lib.hid ho2; have HG2 := Lib.hid hg2
    obtain ⟨hr2, hq2, hl2, hb2, hs2⟩ := que_put HQA.out hg2 HLA.out
    have HQ2 := Lib.hid hq2; have HL2 := Lib.hid hl2; have HS2' := Lib.hid hs2
    have d0 : w2.cell? ⟨Bq, 0, none⟩ = some vQ := hr2.cell 0
    have hql2 := hr2.lt
    obtain ⟨_, qa, qc, hvq, _, _⟩ := hq2.strs
    obtain ⟨m, hmm⟩ : ∃ m, m = (strsOf (addQ Q0 (L.take j))).length := ⟨_, rfl⟩
    rw [← hmm] at hvq
    clear ho2 hg2 hr2 hq2 hl2 hb2 hs2 c0 q0 q1 hown hb hmm hql
    subst hvq
    go_wp2_with (at_builtin; refine wpList_append_txt_at rfl _ _ rfl HQ2.out HS2'.out rfl rfl rfl (by rw [← HNN.out]; exact hn1) ?_)
    intro v' w3 ho3 hg3 hat
    rw [HXT.out] at ho3
    have hq3 := que_more HQA.out HHAS.out HDD.out (by rw [← HNN.out]; exact HO2.out) HG2.out HLA.out HL.out.ap ho3 hg3 hat
    have HQ3 := Lib.hid hq3.2
    have e0 : w3.cell? ⟨Bq, 0, none⟩ = some _ := hq3.1.cell 0
    have f0 := hq3.1.free 0
    obtain ⟨_, ua, uc, hue, _, _⟩ := ho3.strs
    obtain ⟨m2, hm2⟩ : ∃ m2, m2 = (strsOf (addQ Q0 (L.take j) ++ [t])).length := ⟨_, rfl⟩
    rw [← hm2] at hue
    clear ho3 hg3 hat hq3 hm2
    subst hue
    go_wp2
    go_roundw
    case rel =>
     obtain ⟨r1, r2, r3, r4⟩ := HQ3.out
     refine ⟨j + 1, _, by omega, by go_num, ⟨?_, r2, r3, (HL.out.wk.step HBA.out).trans r4⟩⟩
     rw [HS2.out]; exact r1
    case measure => simp [intOf]; omega
  ·obtain rfl : j = z := by omega
   have hbk : decide ((j : Int) < (j : Int)) = false := by simp
   have hall : L.take j = L := List.take_of_length_le (by have := HZ.out; omega)
   have hq := HL.out.que
   rw [hall] at hq
   have HQ := Lib.hid hq
   clear hq hall
   go_wp2
   go_end0
   exact ⟨rfl, vQ, HQ.out, HL.out.wk⟩
end Go.Proofs.YtokknppjeckppaaGreatDoor
set_option linter.unusedVariables false
namespace Go.Proofs.YtokknppjeckppaaGreatDoor
open Go Go.RowKit Go.Maps Go.Sort
attribute [local go_sem] Oper.semAt_some
theorem addQ_len : ∀ {L Q : List Txt}, (addQ Q L).length ≤ Q.length + L.length
 | [], Q => by simp [addQ]
 | k :: L, Q => by
  have h := addQ_len (L := L) (Q := if k ∈ Q then Q else Q ++ [k])
  have e : addQ Q (k :: L) = addQ (if k ∈ Q then Q else Q ++ [k]) L := rfl
  rw [e, List.length_cons]
  by_cases hk : k ∈ Q
  ·rw [if_pos hk] at h ⊢; omega
  ·rw [if_neg hk] at h ⊢
   rw [List.length_append] at h
   simp at h; omega
set_option maxRecDepth 100000 in
set_option maxHeartbeats 4000000 in
theorem newQueue_any (Wl : World) (L : List Txt) (vl : Value) (w : World) (hl : OwnTxt Wl w vl L) (h32 : ∀ t ∈ L, t.length = 32) (hn : L.length ≤ 1000000) :
  Calls Tryz.prog 70 #[vl] w fun e w' => e = .returned (.pointer (some ⟨w.heap.size + 1, 0, none⟩)) ∧ ∃ vQ, Que w (w.heap.size + 1) w.heap.size w' (addQ [] L) vQ := by
 have hmm := @run_makeMap Tryz.prog
 obtain ⟨V, hV⟩ : ∃ V, V = (w.alloc (.map #[] 0)).alloc (.cells #[.slice none 0 0, .map (some w.heap.size)] 134) := ⟨_, rfl⟩
 have hbV : Below w.heap.size w V := by rw [hV]; exact ((Below.refl _ _).alloc (Nat.le_refl _) _).alloc (by simp) _
 have hQ : Que w (w.heap.size + 1) w.heap.size V [] (.slice none 0 0) := by
  refine ⟨?_, ?_, ⟨.map [], ?_, fun x => rfl⟩, Nat.le_succ _, Nat.le_refl _, hbV⟩
  ·rw [hV]
   have := Row.made (w.alloc (.map #[] 0)) #[.slice none 0 0, .map (some w.heap.size)] 134
   simpa using this
  ·exact (ownTxt_nil w).stays hbV
  ·rw [hV]
   exact (World.ownsMap_made w _ _ _).alloc _
 have CA := Lib.hid (fadd_any w Wl (w.heap.size + 1) w.heap.size [] L (.slice none 0 0) vl V hQ (hl.stays hbV) (fun g hg => by simp [Value.ownBlock]) h32 (fun j => by
  have h1 := addQ_len (L := L.take j) (Q := [])
  have h2 := List.length_take_le j L
  simp at h1 h2; omega))
 have HV := Lib.hid hV
 obtain ⟨_, a, cap, hv, _, _⟩ := hl.strs
 obtain ⟨z, hz⟩ : ∃ z, z = (strsOf L).length := ⟨_, rfl⟩
 rw [← hz] at hv
 clear hbV hQ hl h32 hV hz
 subst hv
 go_enter Tryz.func70, Tryz.ntmps70
 go_wp2_with fail
 rw [← HV.out]
 refine CA.out.mono ?_
 rintro e w2 ⟨rfl, vQ, hq, _⟩
 have HQ := Lib.hid hq
 clear hq
 go_wp2
 go_ret
 exact ⟨rfl, vQ, HQ.out⟩
def SeqQ (F : Fence) (n : Nat) (g : Nat) (lb : Array Value) (N : Nat) (Good : List Txt → World → Prop) (w : World) : Prop :=
 ∀ (l : Nat) (J : List Txt → List Txt → World → Prop) (W : World), Below w.heap.size w W →
  (∀ P R X, J P R X → Good (P ++ R) X ∧ (P ++ R).length ≤ N) → (∀ P R X Y, J P R X → Below X.heap.size X Y → J P R Y) →
  (∀ P x R X, J P (x :: R) X → YieldAt F (n - 1) Tryz.prog l #[.string ⟨x.toArray⟩] X fun e Y => e = .returned (.bool true) ∧ ∃ R', J (P ++ [x]) R' Y) →
  ∀ R0, J [] R0 W → CallsIn F n Tryz.prog g (#[.func (.yield l) #[] #[]] ++ lb) W fun e Y => (∃ v, e = .returned v) ∧ ∃ P, J P [] Y
def KeptQ (D L : Nat) (r : Loop) (W : World) : Prop := W.heap[D]? = some (.deferred (some [])) ∧ W.heap[L]? = some (.loop r)
theorem KeptQ.put {D L : Nat} {r r' : Loop} {W : World} (h : KeptQ D L r W) (hne : D ≠ L) : KeptQ D L r' (W.putObj L (.loop r')) :=
 ⟨(World.putObj_heap_other hne).trans h.1, World.putObj_heap_same (Array.getElem?_eq_some_iff.1 h.2).1⟩
def KeepsLD (W Y : World) : Prop := ∀ (k : Nat) (o : Obj), W.heap[k]? = some o → ((∃ l, o = .loop l) ∨ ∃ d, o = .deferred d) → Y.heap[k]? = some o
theorem KeepsLD.of {W Y : World} (h : KeepsOthers W Y) : KeepsLD W Y := fun k o hk ho => h.same k o hk (by rcases ho with ⟨l, rfl⟩ | ⟨d, rfl⟩ <;> rfl)
theorem KeepsLD.trans {A B C : World} (h : KeepsLD A B) (k : KeepsLD B C) : KeepsLD A C := fun i o hi ho => k i o (h i o hi ho) ho
theorem KeepsLD.below {W Y : World} (h : Below W.heap.size W Y) : KeepsLD W Y := fun i o hi _ => (h.block i (Array.getElem?_eq_some_iff.1 hi).1).trans hi
theorem Qk.ld {B Bq Bm : Nat} {W Y : World} (h : Qk B Bq Bm W Y) {xs : Array Value} {T : TypeId} (hq : Row W Bq xs T) {Q : List Txt} (hm : SetM W Bm Q) : KeepsLD W Y := fun k o hk ho => by
 have hnc : ∀ ys t z, o ≠ .cells ys t z := fun ys t z e => by rcases ho with ⟨l, rfl⟩ | ⟨d, rfl⟩ <;> cases e
 refine (h.block k (Array.getElem?_eq_some_iff.1 hk).1 (fun e => ?_) (fun e => ?_) (.inr fun ys hr => ?_)).trans hk
 ·subst e
  have := (show W.heap[k]? = _ from hq).symm.trans hk
  exact hnc _ _ _ (Option.some.inj this).symm
 ·subst e
  obtain ⟨es, cl, hb⟩ := hm.block
  rw [hk] at hb
  cases hb
  rcases ho with ⟨l, e⟩ | ⟨d, e⟩ <;> cases e
 ·have := (show W.heap[k]? = _ from hr).symm.trans hk
  exact hnc _ _ _ (Option.some.inj this).symm
theorem KeptQ.others {D L : Nat} {r : Loop} {W W' : World} (h : KeptQ D L r W) (hk : KeepsLD W W') : KeptQ D L r W' := ⟨hk _ _ h.1 (.inr ⟨_, rfl⟩), hk _ _ h.2 (.inl ⟨_, rfl⟩)⟩
theorem KeptQ.below {D L : Nat} {r : Loop} {W W' : World} (h : KeptQ D L r W) (hb : Below W.heap.size W W') : KeptQ D L r W' :=
 ⟨(hb.block D (Array.getElem?_eq_some_iff.1 h.1).1).trans h.1, (hb.block L (Array.getElem?_eq_some_iff.1 h.2).1).trans h.2⟩
variable {F : Fence} {n : Nat}
theorem wpIn_rangeFunc_que {g : Operand} {ps : Array Tmp} {assign body : Code} {Q : Exit → Act → World → Prop} {a : Act} {w : World}
  (hro : F.round = none) (h1 : 1 ≤ n) {gf : Nat} {lb : Array Value} (hg : a.eval g = .func (.func gf) #[] lb) (hF : F.fn gf) (eg : ∀ args w, (callFunc gf args).run Tryz.prog w = .ok (.enter gf args) w)
  {N : Nat} {Good : List Txt → World → Prop} {w0 : World} (hseq : SeqQ F (n - 1) gf lb N Good w0) (hb0 : Below w0.heap.size w0 w) (hps : ps.size = 1)
  (I : List Txt → List Txt → World → Prop) (hgood : ∀ P R X, I P R X → Good (P ++ R) X ∧ (P ++ R).length ≤ N) (hI : ∀ P R X Y, I P R X → Below X.heap.size X Y → I P R Y)
  (hIo : ∀ P R X l o o', I P R X → w.heap.size ≤ l → X.heap[l]? = some (.loop o) → I P R (X.putObj l (.loop o')))
  (R0 : List Txt) (h0 : I [] R0 w) (a₁ : Txt → Act)
  (hassign : ∀ (l : Nat) (x : Txt) (W : World) (K : Act → World → Prop), K (a₁ x) W →
   assign.wpIn (F.inRound l) (n - 1 - 1) Tryz.prog (Exit.then K (fun _ _ _ => False)) { tmps := (ps.zip #[.string ⟨x.toArray⟩]).foldl (fun t (p, v) => t.setIfInBounds p v) a.tmps, defers := [] } W)
  (hbody : ∀ (l : Nat) (P : List Txt) (x : Txt) (R : List Txt) (W : World), I P (x :: R) W → body.wpIn (F.inRound l) (n - 1 - 1) Tryz.prog (fun e _ Y => e = .normal ∧ KeepsLD W Y ∧ ∃ R', I (P ++ [x]) R' Y) (a₁ x) W)
  (hdone : ∀ (D : Nat) (P : List Txt) (W : World), w.heap.size ≤ D → I P [] W → W.heap[D]? = some (.deferred (some [])) → Q .normal { a with defers := { target := .collected D, args := #[] } :: a.defers } W) :
  (Code.rangeFunc g ps assign body).wpIn F n Tryz.prog Q a w := by
 refine wpIn_rangeFunc fun fn hfn => ?_
 rw [hro]
 let D := w.heap.size
 let L := w.heap.size + 1
 let r0 : Loop := { state := .ready, pending := none, fn, tmps := a.tmps, params := ps, assign, body, defers := D }
 let W1 := (w.alloc (.deferred (some []))).alloc (.loop r0)
 have hDL : D ≠ L := by show w.heap.size ≠ w.heap.size + 1; omega
 have hD0 : w.heap.size ≤ D := Nat.le_refl _
 have hL0 : w.heap.size ≤ L := Nat.le_succ _
 have hb1 : Below w.heap.size w W1 := ((Below.refl _ w).alloc (Nat.le_refl _) _).alloc (by simp) _
 have hk1 : KeptQ D L r0 W1 := by
  refine ⟨(Below.heap_alloc _ _ _ (by show D < _; simp [D])).trans (World.alloc_heap_new w _), ?_⟩
  have := World.alloc_heap_new (w.alloc (.deferred (some []))) (.loop r0)
  rwa [World.size_alloc] at this
 have hI1 : I [] R0 W1 := hI _ _ _ _ h0 hb1
 refine ⟨L, [{ target := .collected D, args := #[] }], W1, { target := .fn (.func gf) lb, args := #[.func (.yield L) #[] #[]] }, W1, gf, #[.func (.yield L) #[] #[]] ++ lb, W1,
  run_enterLoop_outer fn a.tmps ps assign body, ?_, ?_, by simp [invoke, go_sem, eg], fun _ => h1, ?_⟩
 ·simp only [resolve, hg]; simp [go_sem]
 ·intro f' hf'; simp [Target.leads] at hf'; subst hf'; exact hF
 ·refine (hseq L (fun P R W => I P R W ∧ KeptQ D L r0 W) W1 (below_step hb0 hb1) (fun P R X h => hgood P R X h.1) (fun P R X Y h hb => ⟨hI P R X Y h.1 hb, h.2.below hb⟩) ?_ R0 ⟨hI1, hk1⟩).mono ?_
  ·rintro P x R W ⟨hi, hk⟩
   refine ⟨fn, _, assign, body, run_yield hk.2 (by rw [hps]; rfl), roundIn_of_wpIn hfn (hassign L x W _ ⟨_, run_beginRound hk.2 rfl, ?_⟩)⟩
   have hk2 : KeptQ D L { r0 with state := .busy } (W.putObj L (.loop { r0 with state := .busy })) := hk.put hDL
   refine wpIn_mono (hbody L P x R _ (hIo _ _ _ _ _ _ hi hL0 hk.2)) ?_
   rintro e a3 W3 ⟨rfl, hko, R', hi3⟩
   have hk3 := hk2.others hko
   exact ⟨_, _, run_endRound none hk3.2, rfl, R', hIo _ _ _ _ _ _ hi3 hL0 hk3.2, hk3.put hDL⟩
  ·rintro e W2 ⟨⟨v, rfl⟩, P, hi, hk⟩
   refine ⟨none, _, run_endLoop hk.2 (by simp [r0]), ?_⟩
   exact hdone D P _ hD0 (hIo _ _ _ _ _ _ hi hL0 hk.2) ((World.putObj_heap_other hDL).trans hk.1)
abbrev allV (n : Nat) : Value := .func (.func 94) #[] #[.pointer (some ⟨n, 0, none⟩)]
theorem all_any (Bq : Nat) (w : World) : Calls Tryz.prog 72 #[.pointer (some ⟨Bq, 0, none⟩)] w fun e w' => e = .returned (allV w.heap.size) ∧ w.alloc (.cells #[.pointer (some ⟨Bq, 0, none⟩)] 117) = w' := by
 go_enter Tryz.func72, Tryz.ntmps72
 go_wp2
 go_ret
 exact ⟨rfl, rfl⟩
structure QueOk (Bq bq : Nat) (Q : List Txt) (X : World) : Prop where
 list : ∃ vQ, X.cell? ⟨Bq, 0, none⟩ = some vQ ∧ IsStrs X vQ (strsOf Q)
 pt : X.cell? ⟨bq, 0, none⟩ = some (.pointer (some ⟨Bq, 0, none⟩))
set_option maxHeartbeats 8000000 in
set_option maxRecDepth 100000 in
theorem all_seq (n : Nat) (hn : 1 ≤ n) (Bq bq N : Nat) (hN : N ≤ 1000000) (w : World) : SeqQ Fence.wide n 94 #[.pointer (some ⟨bq, 0, none⟩)] N (QueOk Bq bq) w := fun l J W hW hG hB hY R0 h0 => by
 have hro : Fence.wide.round = none := rfl
 refine callsIn_of_wp Tryz.func94 rfl trivial ?_ hro
 simp only [Tryz.ntmps94, List.size_toArray, List.length_cons, List.length_nil, Nat.reduceAdd, Nat.reduceSub, Array.replicate_succ, Array.replicate_zero, List.push_toArray, List.append_toArray, List.nil_append, List.cons_append]
 have HY := Lib.hid hY; have HG := Lib.hid hG; have HB := Lib.hid hB; have H0 := Lib.hid h0
 clear hW hG hB hY h0
 gi_wp2
 gi_loopw [3] (fun i wr => ∃ P R : List Txt, i = .int .i64 P.length ∧ J P R wr) (fun i _ => N + 1 - (intOf i).toNat)
 case atStart => exact ⟨[], R0, rfl, H0.out⟩
 case round =>
  obtain ⟨P, R, rfl, hJ⟩ := hrel
  have HJ := Lib.hid hJ
  obtain ⟨hT, hPN⟩ := HG.out P R wr hJ
  obtain ⟨vQ, c0, hI⟩ := hT.list
  have c1 := hT.pt
  obtain ⟨_, a, cap, hv, _, hc⟩ := hI
  rw [strsOf_len] at hv
  have hlen : (P ++ R).length = P.length + R.length := List.length_append
  obtain ⟨p, hp⟩ : ∃ p, p = P.length := ⟨_, rfl⟩
  obtain ⟨q, hq⟩ : ∃ q, q = (P ++ R).length := ⟨_, rfl⟩
  rw [← hq] at hv hPN hlen
  rw [← hp] at hlen ⊢
  clear hJ hT
  subst hv
  cases R with
  | nil =>
   have hnl : ¬ p < q := by simp at hlen; omega
   have hb : decide (p < q) = false := decide_eq_false hnl
   have HP := Lib.hid hp
   clear hp hq hc hlen
   gi_wp2
   go_end0
   exact ⟨⟨_, rfl⟩, P, HJ.out⟩
  | cons x R =>
   rw [List.length_cons] at hlen
   have hb : decide ((p : Int) < (q : Int)) = true := decide_eq_true (by omega)
   obtain ⟨b, off, rfl, hbl, g⟩ := hc (by rw [strsOf_len, ← hq]; omega)
   have d0 := g p (by rw [strsOf_len, ← hq]; omega)
   rw [strsOf_get (by rw [← hq]; omega)] at d0
   have hx : (P ++ x :: R)[p]'(by rw [← hq]; omega) = x := by simp [hp]
   rw [hx] at d0
   have HP := Lib.hid hp
   have hpq : p < q := by omega
   clear hp hq hc g hx hlen
   obtain ⟨fn, tmps, assign, body, hy, hRd⟩ := HY.out P x R wr HJ.out
   gi_wp2
   refine hRd.mono ?_
   rintro e W3 ⟨rfl, R', hJ3⟩
   have HJ3 := Lib.hid hJ3
   clear hJ3 hy hRd c0 c1 d0
   gi_wp2
   refine ⟨⟨P ++ [x], R', ?_, HJ3.out⟩, ?_⟩
   ·rw [List.length_append, ← HP.out]
    simp
   ·simp [intOf]; omega
abbrev valsV (n : Nat) : Value := .func (.func 110) #[] #[.pointer (some ⟨n, 0, none⟩)]
theorem Values_any (a : Option Addr) (z cap : Nat) (w : World) : Calls Tryz.prog 99 #[.slice a z cap] w fun e w' => e = .returned (valsV w.heap.size) ∧ w.alloc (.cells #[.slice a z cap] 23) = w' := by
 go_enter Tryz.func99, Tryz.ntmps99
 go_wp2
 go_ret
 exact ⟨rfl, rfl⟩
def ValOk (bv : Nat) (a : Option Addr) (cap : Nat) (L : List Txt) (Q : List Txt) (X : World) : Prop := Q = L ∧ X.cell? ⟨bv, 0, none⟩ = some (.slice a L.length cap) ∧ IsStrs X (.slice a L.length cap) (strsOf L)
set_option maxHeartbeats 8000000 in
set_option maxRecDepth 100000 in
theorem vals_seq (n : Nat) (hn : 1 ≤ n) (bv : Nat) (a : Option Addr) (cap : Nat) (L : List Txt) (hN : L.length ≤ 1000000) (w : World) :
  SeqQ Fence.wide n 110 #[.pointer (some ⟨bv, 0, none⟩)] L.length (ValOk bv a cap L) w := fun l J W hW hG hB hY R0 h0 => by
 have hro : Fence.wide.round = none := rfl
 refine callsIn_of_wp Tryz.func110 rfl trivial ?_ hro
 simp only [Tryz.ntmps110, List.size_toArray, List.length_cons, List.length_nil, Nat.reduceAdd, Nat.reduceSub, Array.replicate_succ, Array.replicate_zero, List.push_toArray, List.append_toArray, List.nil_append, List.cons_append]
 have HY := Lib.hid hY; have HG := Lib.hid hG; have H0 := Lib.hid h0
 obtain ⟨⟨hR0, k0, _⟩, _⟩ := hG [] R0 W h0
 obtain ⟨q, hq⟩ : ∃ q, q = L.length := ⟨_, rfl⟩
 rw [← hq] at k0 hN
 have HQ := Lib.hid hq
 clear hW hG hB hY h0 hq hR0
 gi_wp2
 gi_loopw [7] (fun i wr => ∃ P R : List Txt, i = .int .i64 P.length ∧ J P R wr) (fun i _ => q + 1 - (intOf i).toNat)
 case atStart => exact ⟨[], R0, rfl, H0.out⟩
 case round =>
  obtain ⟨P, R, rfl, hJ⟩ := hrel
  have HJ := Lib.hid hJ
  obtain ⟨⟨hPR, _, hI⟩, _⟩ := HG.out P R wr hJ
  obtain ⟨_, _, _, hv, _, hc⟩ := hI
  have hlen : L.length = P.length + R.length := by rw [← hPR]; exact List.length_append
  obtain ⟨p, hp⟩ : ∃ p, p = P.length := ⟨_, rfl⟩
  rw [← HQ.out, ← hp] at hlen
  rw [← hp]
  clear hJ k0
  cases R with
  | nil =>
   have hnl : ¬ p < q := by simp at hlen; omega
   have hb : decide (p < q) = false := decide_eq_false hnl
   clear hp hc hlen hv hPR
   gi_wp2
   go_end0
   exact ⟨⟨_, rfl⟩, P, HJ.out⟩
  | cons x R =>
   rw [List.length_cons] at hlen
   rw [strsOf_len] at hv
   cases hv
   obtain ⟨b, off, rfl, hbl, g⟩ := hc (by rw [strsOf_len, ← HQ.out]; omega)
   have d0 := g p (by rw [strsOf_len, ← HQ.out]; omega)
   rw [strsOf_get (by rw [← HQ.out]; omega)] at d0
   have hx : L[p]'(by rw [← HQ.out]; omega) = x := by
    have : (P ++ x :: R)[p]'(by rw [hPR, ← HQ.out]; omega) = x := by simp [hp]
    rw [← this]; congr 1; exact hPR.symm
   rw [hx] at d0
   have HP := Lib.hid hp
   have hpq : p < q := by omega
   clear hp hc g hx hlen hPR
   obtain ⟨fn, tmps, assign, body, hy, hRd⟩ := HY.out P x R wr HJ.out
   gi_wp2
   refine hRd.mono ?_
   rintro e W3 ⟨rfl, R', hJ3⟩
   have HJ3 := Lib.hid hJ3
   clear hJ3 hy hRd d0
   gi_wp2
   refine ⟨⟨P ++ [x], R', ?_, HJ3.out⟩, ?_⟩
   ·rw [List.length_append, ← HP.out]
    simp
   ·simp [intOf]; omega
def ApI (w : World) (L : List Txt) (P R : List Txt) (X : World) : Prop := P ++ R = L ∧ Below w.heap.size w X ∧ ∃ v, Row X w.heap.size #[v] 23 ∧ OwnTxt w X v P
theorem ApI.put {w : World} {L P R : List Txt} {X : World} {l : Nat} {o o' : Loop} (h : ApI w L P R X) (hl : w.heap.size ≤ l) (ho : X.heap[l]? = some (.loop o)) : ApI w L P R (X.putObj l (.loop o')) := by
 obtain ⟨h1, h2, v, h3, h4⟩ := h
 have hg := grownBy_putObj' X l (.loop o')
 refine ⟨h1, h2.grown hg h2.size (fun g e => by cases e; exact hl), v, ?_, World.ownsRow.kept h4 hg ?_⟩
 ·refine (World.putObj_heap_other (fun e => ?_)).trans h3
  rw [show Row X w.heap.size _ _ = (X.heap[w.heap.size]? = some _) from rfl, e, ho] at h3
  cases h3
 ·rcases h4.2 with ⟨rfl, _⟩ | ⟨g, cap, cur, rfl, _, h5, _⟩
  ·exact .inl rfl
  ·refine .inr fun e => ?_
   cases e
   rw [ho] at h5; cases h5
set_option maxRecDepth 100000 in
set_option maxHeartbeats 8000000 in
theorem AppendSeq_any (bv : Nat) (a : Option Addr) (cap : Nat) (L : List Txt) (hN : L.length ≤ 900000) (w : World) (hc : w.cell? ⟨bv, 0, none⟩ = some (.slice a L.length cap)) (hs : IsStrs w (.slice a L.length cap) (strsOf L)) :
  Calls Tryz.prog 100 #[.slice none 0 0, valsV bv] w (RetOwn w L) := by
 refine (callsIn_wide (n := 5)).1 ?_
 have hro : Fence.wide.round = none := rfl
 obtain ⟨i0, hi, hz0, hz1, hz2⟩ := info_parts infoStr
 have hb1 : Below w.heap.size w (w.alloc (.cells #[.slice none 0 0] 23)) := (Below.refl _ _).alloc (Nat.le_refl _) _
 have hbv : bv < w.heap.size := block_lt_of_cell hc
 have HI0 : Hid (ApI w L [] L (w.alloc (.cells #[.slice none 0 0] 23))) := Lib.hid ⟨rfl, hb1, _, Row.made _ _ _, World.ownsRow_nil _ _ _ _⟩
 have HC := Lib.hid hc; have HS := Lib.hid hs
 have HG : Hid (∀ P R X, ApI w L P R X → ValOk bv a cap L (P ++ R) X ∧ (P ++ R).length ≤ L.length) := Lib.hid (fun P R X h => by
  obtain ⟨h1, h2, _⟩ := h
  exact ⟨⟨h1, (h2.cell (p := ⟨bv, 0, none⟩) hbv).trans hc, hs.stays h2⟩, by rw [h1]; exact Nat.le_refl _⟩)
 clear hc hs hb1
 refine callsIn_of_wp_marks Tryz.func100 rfl trivial ?_ hro
 simp only [Tryz.ntmps100, List.size_toArray, List.length_cons, List.length_nil, Nat.reduceAdd, Nat.reduceSub, Array.replicate_succ, Array.replicate_zero, List.push_toArray, List.append_toArray, List.nil_append, List.cons_append]
 gi_wp2_with fail
 refine wpIn_rangeFunc_que hro (by decide) (gf := 110) (lb := #[.pointer (some ⟨bv, 0, none⟩)]) (by simp [Act.eval]) trivial (enters_of Tryz.func110 (by kernel_rfl) rfl)
  (vals_seq 4 (by decide) bv a cap L (by omega) _) (Below.refl _ _) rfl
  (ApI w L) HG.out (fun P R X Y h hb => by
   obtain ⟨h1, h2, v, h3, h4⟩ := h
   exact ⟨h1, below_step h2 hb, v, h3.step hb, h4.stays hb⟩)
  (fun P R X l o o' h hl ho => h.put (by simp at hl; omega) ho) L HI0.out
  (fun x => { tmps := #[.slice none 0 0, valsV bv, .pointer (some ⟨w.heap.size, 0, none⟩), undef, .slice none 0 0, .string ⟨x.toArray⟩, valsV bv, .string ⟨x.toArray⟩, undef, undef, undef, undef, undef], defers := [] })
  ?assign ?body ?done
 case assign =>
  intro l x W K hK
  gi_wp2
  exact hK
 case body =>
  intro l P x R W hI
  obtain ⟨h1, h2, v, h3, h4⟩ := hI
  have HPR := Lib.hid h1
  have hlen : P.length ≤ 900000 := by have := congrArg List.length h1; rw [List.length_append] at this; omega
  have c0 : W.cell? ⟨w.heap.size, 0, none⟩ = some v := h3.cell 0
  have hqw := h3.lt
  have HW2 := Lib.hid h2; have H3 := Lib.hid h3
  obtain ⟨_, va, vc, hve, _, _⟩ := h4.strs
  have hown : W.ownsRow w.heap.size 9 1 v (strsOf P).length (strCells (strsOf P)) := h4
  have hsl : (strsOf P).length ≤ 900000 := by rw [strsOf_len]; exact hlen
  obtain ⟨m, hm⟩ : ∃ m, m = (strsOf P).length := ⟨_, rfl⟩
  rw [← hm] at hown hsl hve
  have HM := Lib.hid hm
  have hsw := h2.size
  clear h1 h2 h3 h4 hm hlen
  subst hve
  have HO := Lib.hid hown
  clear hown
  gi_wp2_with (gi_at_builtin; refine wpListIn_append_own _ rfl _ _ 23 rfl w.heap.size 9 i0 (.string ⟨#[]⟩) 1 16 Tryz.underlying23 hi hz0 hz1 hz2 rfl (by decide) _ _ _ rfl (World.ownsRow.alloc HO.out _) ⟨W.heap.size, 0, none⟩ 1 1 [.string ⟨x.toArray⟩] rfl rfl cell_one ?c2 ?c3 ?c4 ?c5 ?_)
  case c2 => exact fun u hu => by simp at hu; subst hu; rfl
  case c3 => unfold maxLen; omega
  case c4 => omega
  case c5 => simp; omega
  intro v' w2 hown' hgrow _
  have hne : (Value.slice va m vc).ownBlock ≠ some w.heap.size := owns_apart HO.out H3.out (by decide)
  have hg' := grown_after (grownBy_alloc W (.cells #[.string ⟨x.toArray⟩] 9)) hgrow
  have h32 : Row w2 w.heap.size #[.slice va m vc] 23 := (hg'.block w.heap.size H3.out.lt (fun e => hne e.symm)).trans H3.out
  have hk : KeepsOthers W w2 := (KeepsOthers.alloc _ _).trans (KeepsOthers.of_grownBy hgrow (fun j o hj ho => by
   rcases (World.ownsRow.alloc HO.out (.cells #[.string ⟨x.toArray⟩] 9)).2 with ⟨h, _⟩ | ⟨g', cap', cur, h, _, hgg, _⟩
   ·cases h; cases hj
   ·cases h; cases hj
    rw [hgg] at ho; cases ho; rfl))
  have hb2 : Below w.heap.size w w2 := HW2.out.grown hg' hsw (fun j hj => (World.ownsRow.lt HO.out j hj).1)
  have e0 : w2.cell? ⟨w.heap.size, 0, none⟩ = some (.slice va m vc) := h32.cell 0
  have f0 := h32.free 0
  have hot : OwnTxt w w2 v' (P ++ [x]) := by
   unfold OwnTxt
   rw [strsOf_snoc, List.length_append, strCells_app, ← HM.out]
   exact hown'
  obtain ⟨_, ua, uc, hue, _, _⟩ := hot.strs
  have H32 := Lib.hid h32; have HK := Lib.hid hk; have HB2 := Lib.hid hb2; have HOT := Lib.hid hot
  obtain ⟨m2, hm2⟩ : ∃ m2, m2 = (strsOf (P ++ [x])).length := ⟨_, rfl⟩
  rw [← hm2] at hue
  clear hown' hgrow hne hg' h32 hk hb2 hot hm2 c0
  subst hue
  gi_wp2
  exact ⟨KeepsLD.of (HK.out.trans (KeepsOthers.setCell _ _ _)), R, by rw [← HPR.out]; simp, HB2.out.setCell (p := ⟨w.heap.size, 0, none⟩) (Nat.le_refl _) _, _, H32.out.set 0 _, (Wf.set (N := w2.heap.size) (Bw := w.heap.size) _).owns HOT.out (fun g hg => (World.ownsRow.lt HOT.out g hg).2) (owns_apart HOT.out H32.out (by decide))⟩
 case done =>
  intro D P W hD hI hdef
  obtain ⟨h1, h2, v, h3, h4⟩ := hI
  rw [List.append_nil] at h1
  subst h1
  have c0 : W.cell? ⟨w.heap.size, 0, none⟩ = some v := h3.cell 0
  have hqw := h3.lt
  have HB := Lib.hid h2; have HO := Lib.hid h4; have HDF := Lib.hid hdef
  have hDw : w.heap.size ≤ D := by simp at hD; omega
  clear h2 h3 h4 hdef
  gi_wp2
  refine ⟨by simp, .inl ⟨_, _, rfl, run_takeDeferred HDF.out, ?_⟩⟩
  refine ⟨_, results_tmp rfl _ _ _, v, rfl, World.ownsRow.kept HO.out (grownBy_putObj' W D (.deferred none)) ?_, HB.out.grown (grownBy_putObj' W D (.deferred none)) HB.out.size (fun g e => by cases e; exact hDw)⟩
  rcases HO.out.2 with ⟨rfl, _⟩ | ⟨g, cap, cur, rfl, _, h5, _⟩
  ·exact .inl rfl
  ·refine .inr fun e => ?_
   have := HDF.out
   cases e
   rw [h5] at this; cases this
theorem Collect_any (bv : Nat) (a : Option Addr) (cap : Nat) (L : List Txt) (hN : L.length ≤ 900000) (w : World) (hc : w.cell? ⟨bv, 0, none⟩ = some (.slice a L.length cap)) (hs : IsStrs w (.slice a L.length cap) (strsOf L)) :
  Calls Tryz.prog 80 #[valsV bv] w (RetOwn w L) := by
 have C := Lib.hid (AppendSeq_any bv a cap L hN w hc hs)
 clear hc hs
 go_enter Tryz.func80, Tryz.ntmps80
 go_wp2_with fail
 refine C.out.mono ?_
 rintro e w1 ⟨v, rfl, ho, hb⟩
 have HO := Lib.hid ho; have HB := Lib.hid hb
 clear ho hb
 go_wp2
 go_ret
 exact ⟨v, rfl, HO.out, HB.out⟩
theorem Sorted_any (bv : Nat) (a : Option Addr) (cap : Nat) (L : List Txt) (hN : L.length ≤ 900000) (w : World) (hc : w.cell? ⟨bv, 0, none⟩ = some (.slice a L.length cap)) (hs : IsStrs w (.slice a L.length cap) (strsOf L)) :
  Calls Tryz.prog 54 #[valsV bv] w (RetOwn w (L.mergeSort fun x y => decide (x ≤ y))) := by
 have C := Lib.hid (Collect_any bv a cap L hN w hc hs)
 have hN1 : L.length ≤ 1000000 := by omega
 clear hc hs
 go_enter Tryz.func54, Tryz.ntmps54
 go_wp2_with fail
 refine C.out.mono ?_
 rintro e w1 ⟨v, rfl, ho, hb⟩
 have CS := Lib.hid (Sort_own w w1 v L ho hb hN1)
 clear ho hb
 go_wp2_with fail
 refine CS.out.mono ?_
 rintro e w2 ⟨rfl, ho, hb⟩
 have HO := Lib.hid ho; have HB := Lib.hid hb
 clear ho hb
 go_wp2
 go_ret
 exact ⟨v, rfl, HO.out, HB.out⟩
theorem set_any (W0 : World) (Bq Bm : Nat) (Q : List Txt) (vQ : Value) (w : World) (h : Que W0 Bq Bm w Q vQ) (hN : Q.length ≤ 900000) :
  Calls Tryz.prog 77 #[.pointer (some ⟨Bq, 0, none⟩)] w (RetOwn w (Q.mergeSort fun x y => decide (x ≤ y))) := by
 have c0 : w.cell? ⟨Bq, 0, none⟩ = some vQ := h.row.cell 0
 have hI := h.list.strs
 obtain ⟨_, a, cap, rfl, _, _⟩ := id hI
 rw [strsOf_len] at hI c0
 have hb : Below w.heap.size w (w.alloc (.cells #[.slice a Q.length cap] 23)) := (Below.refl _ _).alloc (Nat.le_refl _) _
 have CV := Lib.hid (Values_any a Q.length cap w)
 have CS := Lib.hid (Sorted_any w.heap.size a cap Q hN (w.alloc (.cells #[.slice a Q.length cap] 23)) ((Row.made w #[.slice a Q.length cap] 23).cell 0) (hI.stays hb))
 have HB := Lib.hid hb
 obtain ⟨m, hm⟩ : ∃ m, m = Q.length := ⟨_, rfl⟩
 rw [← hm] at c0 CV CS HB
 clear h hI hb hm
 go_enter Tryz.func77, Tryz.ntmps77
 go_wp2_with fail
 with_reducible refine CV.out.mono ?_
 rintro e w1 ⟨rfl, rfl⟩
 go_wp2_with fail
 refine CS.out.mono ?_
 rintro e w2 ⟨v, rfl, ho, hb2⟩
 have HO := Lib.hid (ho.low_Ned HB.out.size); have HB2 := Lib.hid (below_step HB.out hb2)
 clear ho hb2
 go_wp2
 go_ret
 exact ⟨v, rfl, HO.out, HB2.out⟩
end Go.Proofs.YtokknppjeckppaaGreatDoor
set_option linter.unusedVariables false
namespace Go.Proofs.YtokknppjeckppaaGreatDoor
open Go Go.RowKit
variable {P : Program} {ops : Array Oper} {Q : Exit → Act → World → Prop}
theorem rowsIn_wide {l n : Nat} {row : String} {args : Array Value} {w : World} {R : Value → World → Prop} (h : Rows P row args w R) : RowsIn (Fence.wide.inRound l) n P row args w R :=
 fun c cs _ => let ⟨v, w', r, s⟩ := h c cs; ⟨v, w', r, stepsIn_wide.2 s⟩
theorem uponIn_round {l n : Nat} {o : Oper} {a : Act} {next : Act → World → Prop} {r : Result Next} (h : o.upon P a next Q r) : o.uponIn (Fence.wide.inRound l) n P a next Q r := by
 cases r with
 | ok x w' =>
  cases x <;> simp only [Oper.upon, Oper.uponIn] at h ⊢ <;>
   first
    | exact h
    | exact ⟨fun h => (by cases h), CallsIn.inRound l (callsIn_wide.2 h)⟩
    | exact ⟨fun h => (by cases h), rowsIn_wide h⟩
 | halt x w' => cases x <;> simp only [Oper.upon, Oper.uponIn] at h ⊢ <;> exact h
theorem wpIn_round {l n : Nat} {o : Oper} {a : Act} {w : World} {next : Act → World → Prop} (hd : ∀ c, o.op ≠ .defer c) (h : o.wp P a w next Q) : o.wpIn (Fence.wide.inRound l) n P a w next Q := by
 refine ⟨fun _ _ => trivial, ?_⟩
 rw [Fence.inRound_round, Oper.semAt_some _ _ _ hd]
 exact uponIn_round h
def noDefer (ops : Array Oper) : Bool := ops.all fun o => match o.op with
 | .defer _ => false
 | _ => true
theorem noDefer_at (h : noDefer ops = true) {i : Nat} {o : Oper} (hi : ops[i]? = some o) : ∀ c, o.op ≠ .defer c := fun c e => by
 obtain ⟨hlt, rfl⟩ := Array.getElem?_eq_some_iff.1 hi
 have := Array.all_eq_true.1 h i hlt
 rw [e] at this; cases this
theorem wpOpIn_round {l n i : Nat} {K : Act → World → Prop} {a : Act} {w : World} (hd : noDefer ops = true) (hQ : ¬ LetsOut Q) (h : wpOp P ops Q i K a w) : wpOpIn (Fence.wide.inRound l) n P ops Q i K a w := by
 unfold wpOp at h; unfold wpOpIn
 cases ho : ops[i]? with
 | none => rw [ho] at h; exact h
 | some o =>
  rw [ho] at h
  simp only at h ⊢
  by_cases hw : Region.wanted o (yielded ops a.tmps) = true
  ·simp only [hw, if_true] at h ⊢
   rcases h with h | h
   ·exact wpIn_round (noDefer_at hd ho) h
   ·exact absurd h.2 hQ
  ·simp only [hw] at h ⊢
   exact ⟨fun _ _ => trivial, h⟩
theorem wpAnyIn_round {l n : Nat} {md : Region.Mode} (hd : noDefer ops = true) (hQ : ¬ LetsOut Q) : ∀ (fuel : Nat) (listed : Array Bool) (a : Act) (w : World), wpAny P md ops Q fuel listed a w → wpAnyIn (Fence.wide.inRound l) n P md ops Q fuel listed a w
 | 0, _, _, _, h => h
 | fuel + 1, listed, a, w, h => ⟨h.1, fun i hi => wpOpIn_mono (fun a w h => wpAnyIn_round hd hQ fuel _ a w h) (wpOpIn_round hd hQ (h.2 i hi))⟩
theorem wpIn_region_round {l n id : Nat} {a : Act} {w : World} (hm : P.follows .mixedOrders = true) (hd : noDefer ops = true) (hQ : ¬ LetsOut Q)
  (h : wpAny P .any ops Q ops.size (Array.replicate ops.size false) a { w with drawn := w.drawn + 1 }) : (Code.region id ops true).wpIn (Fence.wide.inRound l) n P Q a w :=
 wpIn_region_any hm (wpAnyIn_round hd hQ _ _ _ _ h)
end Go.Proofs.YtokknppjeckppaaGreatDoor

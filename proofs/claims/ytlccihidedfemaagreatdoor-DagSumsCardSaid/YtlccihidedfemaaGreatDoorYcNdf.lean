/-
  Contracts over this translation: the document's Read.
-/
import Derived.Test.YtlccihidedfemaaGreatDoorQc3
set_option linter.unusedVariables false
namespace Go.Proofs.YtlccihidedfemaaGreatDoor
open Go.RowKit
attribute [local go_sem] Oper.semAt_some
theorem wr_head {m : Nd} (hf : fitN m = true) {b : UInt8} {r : List UInt8} (h : wrL m = b :: r) : (b.toNat : Int) = m.kd ∧ r = bodyN m := by
 unfold wrL at h
 rw [List.cons.injEq] at h
 refine ⟨?_, h.2.symm⟩
 rw [← h.1]
 rcases fit_kinds hf with e | e | e <;> rw [e] <;> rfl
theorem wr_ne {m : Nd} : wrL m ≠ [] := by unfold wrL; simp
def GP (s : List UInt8) (c k : Nat) (L : List Pt) (R : List UInt8) (ok : Bool) : Prop := ∀ m, fitN m = true → wrL m = s → ok = true ∧ c = m.ps.length ∧ k ≤ c ∧ L = m.ps.take k ∧ R = psB (m.ps.drop k)
def GE (s : List UInt8) (c k : Nat) (L : List En) (R : List UInt8) (ok : Bool) : Prop := ∀ m, fitN m = true → wrL m = s → ok = true ∧ c = m.es.length ∧ k ≤ c ∧ L = m.es.take k ∧ R = esB (m.es.drop k)
def GN (s : List UInt8) (n : Nd) (ok : Bool) : Prop := ∀ m, fitN m = true → wrL m = s → ok = true ∧ n = m
theorem gp_start {b : UInt8} {r : List UInt8} {c j : Nat} (hb : b.toNat = 2) (hv : vtake r = (c, j, 0)) : GP (b :: r) c 0 [] (r.drop j) true := fun m hf h => by
 obtain ⟨h1, h2⟩ := wr_head hf h
 have hk : m.kd = 2 := by omega
 rw [body_file hk] at h2
 have h3 := (fit2 hk hf).2.2.1
 have ht := take_put (n := m.ps.length) (by unfold U64; omega) (psB m.ps)
 rw [← h2, hv] at ht
 simp only [Prod.mk.injEq, and_true] at ht
 refine ⟨rfl, ht.1, Nat.zero_le _, rfl, ?_⟩
 rw [h2, ht.2, List.drop_left]; rfl
theorem ge_start {b : UInt8} {r : List UInt8} {c j : Nat} (h1 : b.toNat ≠ 1) (h2 : b.toNat ≠ 2) (hv : vtake r = (c, j, 0)) : GE (b :: r) c 0 [] (r.drop j) true := fun m hf h => by
 obtain ⟨g1, g2⟩ := wr_head hf h
 have hk : m.kd = 3 := by rcases fit_kinds hf with e | e | e <;> omega
 rw [body_dir hk] at g2
 have h3 := (fit3 hk hf).2.2.1
 have ht := take_put (n := m.es.length) (by unfold U64; omega) (esB m.es)
 rw [← g2, hv] at ht
 simp only [Prod.mk.injEq, and_true] at ht
 refine ⟨rfl, ht.1, Nat.zero_le _, rfl, ?_⟩
 rw [g2, ht.2, List.drop_left]; rfl
theorem gp_bad {s : List UInt8} {c k : Nat} {L L' : List Pt} {R R' : List UInt8} (h : GP s c k L R true) (hk : k < c) (hn : pPart R = none) (kd : ∀ m, fitN m = true → wrL m = s → m.kd = 2) : GP s c (k + 1) L' R' false := fun m hf hw => by
 obtain ⟨_, h2, _, _, h5⟩ := h m hf hw
 have hlt : k < m.ps.length := by omega
 have hok := (fitFile_iff.1 (fit2 (kd m hf hw) hf).2.2.2).1 _ (List.getElem_mem hlt)
 rw [h5, List.drop_eq_getElem_cons hlt] at hn
 have := pPart_full hok (psB (m.ps.drop (k + 1)))
 rw [show ptB m.ps[k] ++ psB (m.ps.drop (k + 1)) = psB (m.ps[k] :: m.ps.drop (k + 1)) from rfl, hn] at this
 cases this
theorem gp_step {s : List UInt8} {c k : Nat} {L : List Pt} {R R' : List UInt8} {p : Pt} (h : GP s c k L R true) (hk : k < c) (hn : pPart R = some (p, R')) (kd : ∀ m, fitN m = true → wrL m = s → m.kd = 2) : GP s c (k + 1) (L ++ [p]) R' true := fun m hf hw => by
 obtain ⟨_, h2, _, h4, h5⟩ := h m hf hw
 have hlt : k < m.ps.length := by omega
 have hok := (fitFile_iff.1 (fit2 (kd m hf hw) hf).2.2.2).1 _ (List.getElem_mem hlt)
 rw [h5, List.drop_eq_getElem_cons hlt] at hn
 have := pPart_full hok (psB (m.ps.drop (k + 1)))
 rw [show ptB m.ps[k] ++ psB (m.ps.drop (k + 1)) = psB (m.ps[k] :: m.ps.drop (k + 1)) from rfl, hn] at this
 simp only [Option.some.injEq, Prod.mk.injEq] at this
 refine ⟨rfl, h2, by omega, ?_, this.2⟩
 rw [h4, this.1, List.take_succ_eq_append_getElem hlt]
theorem ge_bad {s : List UInt8} {c k : Nat} {L L' : List En} {R R' : List UInt8} (h : GE s c k L R true) (hk : k < c) (hn : dEntry R = none) (kd : ∀ m, fitN m = true → wrL m = s → m.kd = 3) : GE s c (k + 1) L' R' false := fun m hf hw => by
 obtain ⟨_, h2, _, _, h5⟩ := h m hf hw
 have hlt : k < m.es.length := by omega
 have hok := (fitDir_iff.1 (fit3 (kd m hf hw) hf).2.2.2).1 _ (List.getElem_mem hlt)
 rw [h5, List.drop_eq_getElem_cons hlt] at hn
 have := dEntry_full hok (esB (m.es.drop (k + 1)))
 rw [show enB m.es[k] ++ esB (m.es.drop (k + 1)) = esB (m.es[k] :: m.es.drop (k + 1)) from rfl, hn] at this
 cases this
theorem ge_step {s : List UInt8} {c k : Nat} {L : List En} {R R' : List UInt8} {p : En} {q : Bool} (h : GE s c k L R true) (hk : k < c) (hn : dEntry R = some (p, R', q)) (kd : ∀ m, fitN m = true → wrL m = s → m.kd = 3) : GE s c (k + 1) (L ++ [p]) R' q := fun m hf hw => by
 obtain ⟨_, h2, _, h4, h5⟩ := h m hf hw
 have hlt : k < m.es.length := by omega
 have hok := (fitDir_iff.1 (fit3 (kd m hf hw) hf).2.2.2).1 _ (List.getElem_mem hlt)
 rw [h5, List.drop_eq_getElem_cons hlt] at hn
 have := dEntry_full hok (esB (m.es.drop (k + 1)))
 rw [show enB m.es[k] ++ esB (m.es.drop (k + 1)) = esB (m.es[k] :: m.es.drop (k + 1)) from rfl, hn] at this
 simp only [Option.some.injEq, Prod.mk.injEq] at this
 refine ⟨this.2.2, h2, by omega, ?_, this.2.1⟩
 rw [h4, this.1, List.take_succ_eq_append_getElem hlt]
theorem gp_end {s : List UInt8} {b c k : Nat} {L : List Pt} {R : List UInt8} {ok : Bool} (h : GP s c k L R ok) (hk : ok = true → c ≤ k) (kd : ∀ m, fitN m = true → wrL m = s → m.kd = 2) (hb : b = 2) : GN s ⟨(b : Int), ⟨#[]⟩, L, []⟩ ok := fun m hf hw => by
 obtain ⟨h1, h2, h3, h4, _⟩ := h m hf hw
 have := hk h1
 obtain ⟨g1, g2, _, _⟩ := fit2 (kd m hf hw) hf
 exact ⟨h1, nd_ext (by rw [kd m hf hw, hb]; rfl) g1.symm (by rw [h4]; exact List.take_of_length_le (by omega)) g2.symm⟩
theorem ge_end {s : List UInt8} {b c k : Nat} {L : List En} {R : List UInt8} {ok : Bool} (h : GE s c k L R ok) (hk : ok = true → c ≤ k) (kd : ∀ m, fitN m = true → wrL m = s → m.kd = 3 ∧ b = 3) : GN s ⟨(b : Int), ⟨#[]⟩, [], L⟩ ok := fun m hf hw => by
 obtain ⟨h1, h2, h3, h4, _⟩ := h m hf hw
 have := hk h1
 obtain ⟨k1, k2⟩ := kd m hf hw
 obtain ⟨g1, g2, _, _⟩ := fit3 k1 hf
 exact ⟨h1, nd_ext (by rw [k1, k2]; rfl) g1.symm g2.symm (by rw [h4]; exact List.take_of_length_le (by omega))⟩
theorem rdd_bad {s : List UInt8} {n : Nd} (h : GN s n false) : RdOk s zeroNd 2 := .inr ⟨rfl, rfl, fun m hm e => by cases (h m hm e).1⟩
theorem rdd_unfit {s : List UInt8} {n : Nd} {ok : Bool} (h : GN s n ok) (hf : fitN n = false) : RdOk s zeroNd 2 := .inr ⟨rfl, rfl, fun m hm e => by
 have := (h m hm e).2; rw [this, hm] at hf; cases hf⟩
theorem rdd_other {s : List UInt8} {n : Nd} {ok : Bool} (h : GN s n ok) (hw : wrL n ≠ s) : RdOk s zeroNd 2 := .inr ⟨rfl, rfl, fun m hm e => hw (by rw [(h m hm e).2]; exact e)⟩
theorem row_grownP {w w' : World} {base B : Nat} {v : Value} {M : List Pt} {xs : Array Value} {T : TypeId} (h : Row w B xs T) (ho : OwnP base w v M) (hg : w.grownBy w' v.ownBlock) (hlt : B < base) : Row w' B xs T := by
 unfold Row; rw [hg.block B h.lt (fun e => by have := (ho.lt B e.symm).1; omega)]; exact h
theorem row_grownE {w w' : World} {base B : Nat} {v : Value} {M : List En} {xs : Array Value} {T : TypeId} (h : Row w B xs T) (ho : OwnE base w v M) (hg : w.grownBy w' v.ownBlock) (hlt : B < base) : Row w' B xs T := by
 unfold Row; rw [hg.block B h.lt (fun e => by have := (ho.lt B e.symm).1; omega)]; exact h
def RetR (n : Nd) (err : Int) (w : World) (e : Ending) (w' : World) : Prop := ∃ pv ev, e = .returned (.tuple #[ndV n pv ev, .int .i64 err]) ∧ IsParts w' pv n.ps ∧ IsEntries w' ev n.es ∧ Below w.heap.size w w'
theorem take_ok {b : UInt8} {r : List UInt8} {n j x : Nat} (h1 : b.toNat ≠ 1) (hv : vtake r = (n, j, x)) {m : Nd} (hf : fitN m = true) (h : wrL m = b :: r) : x = 0 ∧ n ≤ 1024 := by
 obtain ⟨g1, g2⟩ := wr_head hf h
 rcases fit_kinds hf with hk | hk | hk
 ·omega
 ·rw [body_file hk] at g2
  have h3 := (fit2 hk hf).2.2.1
  have ht := take_put (n := m.ps.length) (by unfold U64; omega) (psB m.ps)
  rw [← g2, hv] at ht
  simp only [Prod.mk.injEq] at ht
  omega
 ·rw [body_dir hk] at g2
  have h3 := (fit3 hk hf).2.2.1
  have ht := take_put (n := m.es.length) (by unfold U64; omega) (esB m.es)
  rw [← g2, hv] at ht
  simp only [Prod.mk.injEq] at ht
  omega
theorem OwnP.setNe {B b i : Nat} {w : World} {v : Value} {L : List Pt} (h : OwnP B w v L) (ha : ∀ g, v.ownBlock = some g → g < b) (u : Value) : OwnP B (w.setCell ⟨b, i, none⟩ u) v L :=
 World.ownsRow.kept h (grownBy_set w b i u) (by
  cases hv : v.ownBlock with
  | none => exact .inl rfl
  | some k =>
   refine .inr fun e => ?_
   have := ha k hv
   cases e; omega)
theorem OwnE.setNe {B b i : Nat} {w : World} {v : Value} {L : List En} (h : OwnE B w v L) (ha : ∀ g, v.ownBlock = some g → g < b) (u : Value) : OwnE B (w.setCell ⟨b, i, none⟩ u) v L :=
 World.ownsRow.kept h (grownBy_set w b i u) (by
  cases hv : v.ownBlock with
  | none => exact .inl rfl
  | some k =>
   refine .inr fun e => ?_
   have := ha k hv
   cases e; omega)
theorem wpList_append_parts2 {ops : Array Oper} {rest : List Oper} {o : Oper} {a : Act} {B z : Nat} {w0 : World} {Q : Exit → Act → World → Prop} (hgd : o.guard = none) (s x : Operand)
  (ho : o.op = .call { callee := .builtin .append, args := #[s, x], argTypes := #[41, 41] })
  {v : Value} {M : List Pt} {y : Pt} (hown : OwnP B w0 v M) (hBs : B ≤ w0.heap.size) (hz : z = w0.heap.size) (hs : a.eval s = v)
  (hx : a.eval x = .slice (some ⟨z, 0, none⟩) 1 1) (hlen : M.length ≤ 1000000)
  (h : ∀ v' w', OwnP B w' v' (M ++ [y]) → w0.grownBy w' v.ownBlock → wpList Tryz.prog ops Q rest (a.put o.dst v') w') :
  wpList Tryz.prog ops Q (o :: rest) a (w0.alloc (.cells #[.string y.k, .int .i64 y.n] 74)) := by
 subst hz
 exact wpList_append_parts hgd s x ho hown hBs hs hx hlen h
theorem wpList_append_entries2 {ops : Array Oper} {rest : List Oper} {o : Oper} {a : Act} {B z : Nat} {w0 : World} {Q : Exit → Act → World → Prop} (hgd : o.guard = none) (s x : Operand)
  (ho : o.op = .call { callee := .builtin .append, args := #[s, x], argTypes := #[42, 42] })
  {v : Value} {M : List En} {y : En} (hown : OwnE B w0 v M) (hBs : B ≤ w0.heap.size) (hz : z = w0.heap.size) (hs : a.eval s = v)
  (hx : a.eval x = .slice (some ⟨z, 0, none⟩) 1 1) (hlen : M.length ≤ 1000000)
  (h : ∀ v' w', OwnE B w' v' (M ++ [y]) → w0.grownBy w' v.ownBlock → wpList Tryz.prog ops Q rest (a.put o.dst v') w') :
  wpList Tryz.prog ops Q (o :: rest) a (w0.alloc (.cells #[.string y.m, .int .i64 y.kd, .bool y.x, .string y.k] 78)) := by
 subst hz
 exact wpList_append_entries hgd s x ho hown hBs hs hx hlen h
theorem row2_row {w : World} {B : Nat} {a b : Value} {T : TypeId} (h : Row w B #[a, b] T) (p q : Value) : Row ((w.setCell ⟨B, 0, none⟩ p).setCell ⟨B, 1, none⟩ q) B #[p, q] T := (h.set 0 p).set 1 q
theorem gn_piece {b : UInt8} {r : List UInt8} {R : ByteArray} (hb : b.toNat = 1) (hR : R.data.toList = r) : GN (b :: r) ⟨(b.toNat : Int), R, [], []⟩ true := fun m hf h => by
 obtain ⟨g1, g2⟩ := wr_head hf h
 have hk : m.kd = 1 := by omega
 rw [body_piece hk] at g2
 obtain ⟨_, _, h3, h4⟩ := fit1 hk hf
 exact ⟨rfl, nd_ext (by show (b.toNat : Int) = m.kd; omega) (str_eq' (by rw [hR]; exact g2)) h3.symm h4.symm⟩
theorem pPart_rest {l r : List UInt8} {p : Pt} (h : pPart l = some (p, r)) : r.length < l.length := (pPart_sound h).2.2.2.2
theorem dEntry_rest {l r : List UInt8} {p : En} {q : Bool} (h : dEntry l = some (p, r, q)) : r.length < l.length := by
 unfold dEntry at h
 split at h
 ·cases h
 ·split at h
  ·cases h
  ·rename_i h2
   simp only [Option.some.injEq, Prod.mk.injEq] at h
   obtain ⟨_, rfl, _⟩ := h
   rw [List.length_drop] at h2 ⊢
   omega
set_option maxRecDepth 100000 in
set_option maxHeartbeats 6000000 in
theorem rRead_any (S : ByteArray) (hS : S.size ≤ 1000000) (w : World) :
  Calls Tryz.prog 24 #[.string S] w fun e w' => ∃ n err, RdOk S.data.toList n err ∧ RetR n err w e w' := by
 have hb0 := (Below.refl w.heap.size w).alloc (Nat.le_refl _) (.cells #[.int .i64 0, .string ⟨#[]⟩, .slice none 0 0, .slice none 0 0] 44)
 have HX0 := Lib.hid (Row.made w #[.int .i64 0, .string ⟨#[]⟩, .slice none 0 0, .slice none 0 0] 44)
 have hsz := Lib.size_eq S
 cases hl : S.data.toList with
 | nil =>
  have HRD : Hid (RdOk S.data.toList zeroNd 2) := Lib.hid (.inr ⟨rfl, rfl, fun m _ e => wr_ne (e.trans hl)⟩)
  have q : S.toList.isEmpty = true := by rw [Lib.toList_data, hl]; rfl
  rw [← hl]
  clear hsz hl
  go_enter Tryz.func24, Tryz.ntmps24
  go_wp2
  exact bodyPost_ret (v := .tuple #[.agg #[.int .i64 0, .string ⟨#[]⟩, .slice none 0 0, .slice none 0 0], .int .i64 2]) (by simp [results, Tryz.results24, go_sem]) rfl ⟨zeroNd, 2, HRD.out, _, _, rfl, parts_nil _, entries_nil _, hb0⟩
 | cons b r =>
  rw [hl, List.length_cons] at hsz
  have q : S.toList.isEmpty = false := by rw [Lib.toList_data, hl]; rfl
  have hpos : 0 < S.size := by omega
  have hci : S[0] = b := by
   have : S.data.toList[0]'(by rw [hl]; simp) = b := by simp [hl]
   exact this
  have hbl := b.toNat_lt
  have hRl : (S.extract 1 S.size).data.toList = r := by rw [drop_str, hl]; rfl
  have hRs : (S.extract 1 S.size).size ≤ 1000000 := by rw [Lib.size_eq, hRl]; omega
  have hge1 : ¬ ((S.size : Int) < 1) := by omega
  have HL := Lib.hid hl
  rw [← hl]
  obtain ⟨V, hV⟩ : ∃ V, V = (w.alloc (.cells #[.int .i64 0, .string ⟨#[]⟩, .slice none 0 0, .slice none 0 0] 44)).alloc (.cells #[.int .i64 b.toNat, .string ⟨#[]⟩, .slice none 0 0, .slice none 0 0] 44) := ⟨_, rfl⟩
  have hbV : Below w.heap.size w V := by rw [hV]; exact ((Below.refl _ _).alloc (Nat.le_refl _) _).alloc (by simp) _
  have hRV : Row V w.heap.size #[.int .i64 0, .string ⟨#[]⟩, .slice none 0 0, .slice none 0 0] 44 := by rw [hV]; exact HX0.out.alloc _
  have hXV : Row V (w.heap.size + 1) #[.int .i64 b.toNat, .string ⟨#[]⟩, .slice none 0 0, .slice none 0 0] 44 := by
   have := Row.made (w.alloc (.cells #[.int .i64 0, .string ⟨#[]⟩, .slice none 0 0, .slice none 0 0] 44)) #[.int .i64 b.toNat, .string ⟨#[]⟩, .slice none 0 0, .slice none 0 0] 44
   rw [hV]; simpa using this
  have HV := Lib.hid hV; have HBV := Lib.hid hbV; have HRV := Lib.hid hRV; have HXV := Lib.hid hXV
  have hltX : w.heap.size + 1 < V.heap.size := hXV.lt
  clear hV hbV hRV hXV hb0 HX0 hl hsz
  by_cases h1 : b.toNat = 1
  ·have q1 : ((b.toNat : Int) == 1) = true := ie_t (by omega)
   have HG := Lib.hid (gn_piece (r := r) h1 hRl)
   rw [← HL.out] at HG
   obtain ⟨W1, hW1⟩ : ∃ W1, W1 = (w.alloc (.cells #[.int .i64 0, .string ⟨#[]⟩, .slice none 0 0, .slice none 0 0] 44)).alloc (.cells #[.int .i64 b.toNat, .string (S.extract 1 S.size), .slice none 0 0, .slice none 0 0] 44) := ⟨_, rfl⟩
   have HB0 : Hid (w.heap.size ≤ w.heap.size) := Lib.hid (Nat.le_refl _)
   have HBS : Hid (w.heap.size < V.heap.size) := Lib.hid (by omega)
   have HBW : Hid (Below w.heap.size w W1) := Lib.hid (by rw [hW1]; exact ((Below.refl _ _).alloc (Nat.le_refl _) _).alloc (by simp) _)
   have HRW : Hid (Row W1 w.heap.size #[.int .i64 0, .string ⟨#[]⟩, .slice none 0 0, .slice none 0 0] 44) := Lib.hid (by rw [hW1]; exact (Row.made w _ _).alloc _)
   have HXW : Hid (Row W1 (w.heap.size + 1) #[.int .i64 b.toNat, .string (S.extract 1 S.size), .slice none 0 0, .slice none 0 0] 44) := Lib.hid (by
    have := Row.made (w.alloc (.cells #[.int .i64 0, .string ⟨#[]⟩, .slice none 0 0, .slice none 0 0] 44)) #[.int .i64 b.toNat, .string (S.extract 1 S.size), .slice none 0 0, .slice none 0 0] 44
    rw [hW1]; simpa using this)
   clear h1 hRl
   go_enter Tryz.func24, Tryz.ntmps24
   go_wp2_with fail
   rw [← hW1]
   clear hW1
   obtain ⟨n, hn⟩ : ∃ n : Nd, n = ⟨(b.toNat : Int), S.extract 1 S.size, [], []⟩ := ⟨_, rfl⟩
   have hnkd : n.kd = b.toNat := by rw [hn]
   have hnd : n.d = S.extract 1 S.size := by rw [hn]
   have HGN := Lib.hid (show GN S.data.toList n true from by rw [hn]; exact HG.out)
   have HOP : Hid (OwnP V.heap.size W1 (.slice none 0 0) n.ps) := Lib.hid (by rw [hn]; exact parts_own_nil _ _)
   have HOE : Hid (OwnE V.heap.size W1 (.slice none 0 0) n.es) := Lib.hid (by rw [hn]; exact entries_own_nil _ _)
   have RF := Lib.hid (rFit_any n (.slice none 0 0) (.slice none 0 0) (W1) HOP.out.is HOE.out.is)
   rw [show ndV n (.slice none 0 0) (.slice none 0 0) = .agg #[.int .i64 (b.toNat), .string (S.extract 1 S.size), .slice none 0 0, .slice none 0 0] by unfold ndV; rw [hnkd, hnd]] at RF
   have x0 := HXW.out.cell 0; have x1 := HXW.out.cell 1; have x2 := HXW.out.cell 2; have x3 := HXW.out.cell 3
   simp only [List.getElem?_toArray, List.getElem?_cons_zero, List.getElem?_cons_succ] at x0 x1 x2 x3
   have HNK := Lib.hid hnkd; have HND := Lib.hid hnd
   rcases hf : fitN n with _ | _
   ·rw [hf] at RF
    have HRD := Lib.hid (rdd_unfit HGN.out hf)
    clear hf hn hnkd hnd
    skip
    with_reducible refine RF.out.mono ?_
    rintro e w8 ⟨rfl, hb8⟩
    have HR9 := Lib.hid (HRW.out.step hb8)
    have HB9 := Lib.hid (HBW.out.trans (hb8.mono HBW.out.size))
    clear x0 x1 x2 x3 hb8
    have p0 := HR9.out.cell 0; have p1 := HR9.out.cell 1; have p2 := HR9.out.cell 2; have p3 := HR9.out.cell 3
    have f0 := HR9.out.free 0; have f1 := HR9.out.free 1; have f2 := HR9.out.free 2; have f3 := HR9.out.free 3
    simp only [List.getElem?_toArray, List.getElem?_cons_zero, List.getElem?_cons_succ] at p0 p1 p2 p3
    go_wp2
    have hR4 := row4_row HR9.out (.int .i64 0) (.string ⟨#[]⟩) (.slice none 0 0) (.slice none 0 0)
    have d0 := hR4.cell 0; have d1 := hR4.cell 1; have d2 := hR4.cell 2; have d3 := hR4.cell 3
    simp only [List.getElem?_toArray, List.getElem?_cons_zero, List.getElem?_cons_succ] at d0 d1 d2 d3
    refine bodyPost_ret (v := .tuple #[.agg #[.int .i64 0, .string ⟨#[]⟩, .slice none 0 0, .slice none 0 0], .int .i64 2]) (by simp [results, Tryz.results24, go_sem, d0, d1, d2, d3]) rfl ?_
    exact ⟨zeroNd, 2, HRD.out, _, _, rfl, parts_nil _, entries_nil _, (((HB9.out.setCell (p := ⟨w.heap.size, 0, none⟩) HB0.out _).setCell (p := ⟨w.heap.size, 1, none⟩) HB0.out _).setCell (p := ⟨w.heap.size, 2, none⟩) HB0.out _).setCell (p := ⟨w.heap.size, 3, none⟩) HB0.out _⟩
   ·rw [hf] at RF
    have HFN := Lib.hid hf
    clear hf hn hnkd hnd
    skip
    with_reducible refine RF.out.mono ?_
    rintro e w8 ⟨rfl, hb8⟩
    have HR8 := Lib.hid (HRW.out.step hb8)
    have HX8 := Lib.hid (HXW.out.step hb8)
    have HB8 := Lib.hid (HBW.out.trans (hb8.mono HBW.out.size))
    have HOP8 := Lib.hid (HOP.out.stays hb8); have HOE8 := Lib.hid (HOE.out.stays hb8)
    have RW := Lib.hid (rWriteF_any n (.slice none 0 0) (.slice none 0 0) w8 HOP8.out.is HOE8.out.is HFN.out)
    rw [show ndV n (.slice none 0 0) (.slice none 0 0) = .agg #[.int .i64 (b.toNat), .string (S.extract 1 S.size), .slice none 0 0, .slice none 0 0] by unfold ndV; rw [HNK.out, HND.out]] at RW
    rw [wrN_fit HFN.out] at RW
    clear x0 x1 x2 x3
    have x0 := HX8.out.cell 0; have x1 := HX8.out.cell 1; have x2 := HX8.out.cell 2; have x3 := HX8.out.cell 3
    simp only [List.getElem?_toArray, List.getElem?_cons_zero, List.getElem?_cons_succ] at x0 x1 x2 x3
    obtain ⟨Y, hY1, hY2⟩ := ex_str (wrL n)
    rw [← hY1] at RW
    by_cases hys : Y = S
    ·have y1 := beq_true hys
     have y2 : (!(Y.toList == S.toList)) = false := by rw [y1]; rfl
     have HRD : Hid (RdOk S.data.toList n 0) := Lib.hid (.inl ⟨rfl, HFN.out, by rw [← hY2, hys]⟩)
     clear hys hY1 hY2 hb8
     go_wp2_with fail
     with_reducible refine RW.out.mono ?_
     rintro e w9 ⟨rfl, hb9⟩
     have HR9 := Lib.hid (HR8.out.step hb9)
     have HX9 := HX8.out.step hb9
     have HB9 := Lib.hid (HB8.out.trans (hb9.mono HB8.out.size))
     have HOP9 := Lib.hid (HOP8.out.stays hb9); have HOE9 := Lib.hid (HOE8.out.stays hb9)
     clear x0 x1 x2 x3 hb9
     have x0 := HX9.cell 0; have x1 := HX9.cell 1; have x2 := HX9.cell 2; have x3 := HX9.cell 3
     have p0 := HR9.out.cell 0; have p1 := HR9.out.cell 1; have p2 := HR9.out.cell 2; have p3 := HR9.out.cell 3
     have f0 := HR9.out.free 0; have f1 := HR9.out.free 1; have f2 := HR9.out.free 2; have f3 := HR9.out.free 3
     simp only [List.getElem?_toArray, List.getElem?_cons_zero, List.getElem?_cons_succ] at p0 p1 p2 p3 x0 x1 x2 x3
     clear HX9
     go_wp2
     have hR4 := row4_row HR9.out (.int .i64 (b.toNat)) (.string (S.extract 1 S.size)) (.slice none 0 0) (.slice none 0 0)
     have d0 := hR4.cell 0; have d1 := hR4.cell 1; have d2 := hR4.cell 2; have d3 := hR4.cell 3
     simp only [List.getElem?_toArray, List.getElem?_cons_zero, List.getElem?_cons_succ] at d0 d1 d2 d3
     refine bodyPost_ret (v := .tuple #[.agg #[.int .i64 (b.toNat), .string (S.extract 1 S.size), .slice none 0 0, .slice none 0 0], .int .i64 0]) (by simp [results, Tryz.results24, go_sem, d0, d1, d2, d3]) rfl ?_
     refine ⟨n, 0, HRD.out, .slice none 0 0, .slice none 0 0, by rw [show ndV n (.slice none 0 0) (.slice none 0 0) = .agg #[.int .i64 (b.toNat), .string (S.extract 1 S.size), .slice none 0 0, .slice none 0 0] by unfold ndV; rw [HNK.out, HND.out]], ?_, ?_, (((HB9.out.setCell (p := ⟨w.heap.size, 0, none⟩) HB0.out _).setCell (p := ⟨w.heap.size, 1, none⟩) HB0.out _).setCell (p := ⟨w.heap.size, 2, none⟩) HB0.out _).setCell (p := ⟨w.heap.size, 3, none⟩) HB0.out _⟩
     ·exact ((((HOP9.out.setBelow (a := ⟨w.heap.size, 0, none⟩) HBS.out _).setBelow (a := ⟨w.heap.size, 1, none⟩) HBS.out _).setBelow (a := ⟨w.heap.size, 2, none⟩) HBS.out _).setBelow (a := ⟨w.heap.size, 3, none⟩) HBS.out _).is
     ·exact ((((HOE9.out.setBelow (a := ⟨w.heap.size, 0, none⟩) HBS.out _).setBelow (a := ⟨w.heap.size, 1, none⟩) HBS.out _).setBelow (a := ⟨w.heap.size, 2, none⟩) HBS.out _).setBelow (a := ⟨w.heap.size, 3, none⟩) HBS.out _).is
    ·have y1 := beq_false hys
     have y2 : (!(Y.toList == S.toList)) = true := by rw [y1]; rfl
     have HRD := Lib.hid (rdd_other HGN.out (fun e => hys (str_eq' (by rw [hY2]; exact e))))
     clear hys hY1 hY2 hb8
     go_wp2_with fail
     with_reducible refine RW.out.mono ?_
     rintro e w9 ⟨rfl, hb9⟩
     have HR9 := Lib.hid (HR8.out.step hb9)
     have HB9 := Lib.hid (HB8.out.trans (hb9.mono HB8.out.size))
     clear x0 x1 x2 x3 hb9
     have p0 := HR9.out.cell 0; have p1 := HR9.out.cell 1; have p2 := HR9.out.cell 2; have p3 := HR9.out.cell 3
     have f0 := HR9.out.free 0; have f1 := HR9.out.free 1; have f2 := HR9.out.free 2; have f3 := HR9.out.free 3
     simp only [List.getElem?_toArray, List.getElem?_cons_zero, List.getElem?_cons_succ] at p0 p1 p2 p3
     go_wp2
     have hR4 := row4_row HR9.out (.int .i64 0) (.string ⟨#[]⟩) (.slice none 0 0) (.slice none 0 0)
     have d0 := hR4.cell 0; have d1 := hR4.cell 1; have d2 := hR4.cell 2; have d3 := hR4.cell 3
     simp only [List.getElem?_toArray, List.getElem?_cons_zero, List.getElem?_cons_succ] at d0 d1 d2 d3
     refine bodyPost_ret (v := .tuple #[.agg #[.int .i64 0, .string ⟨#[]⟩, .slice none 0 0, .slice none 0 0], .int .i64 2]) (by simp [results, Tryz.results24, go_sem, d0, d1, d2, d3]) rfl ?_
     exact ⟨zeroNd, 2, HRD.out, _, _, rfl, parts_nil _, entries_nil _, (((HB9.out.setCell (p := ⟨w.heap.size, 0, none⟩) HB0.out _).setCell (p := ⟨w.heap.size, 1, none⟩) HB0.out _).setCell (p := ⟨w.heap.size, 2, none⟩) HB0.out _).setCell (p := ⟨w.heap.size, 3, none⟩) HB0.out _⟩
  ·have q1 : ((b.toNat : Int) == 1) = false := ie_f (by omega)
   have T := Lib.hid (fun w => refTake_any (S.extract 1 S.size) (by unfold maxLen; omega) w)
   rw [hRl] at T
   obtain ⟨c, j, x, hv⟩ : ∃ n j x, vtake r = (n, j, x) := ⟨_, _, _, rfl⟩
   have HTK := Lib.hid (fun m hf h => take_ok (m := m) h1 hv hf h)
   rw [hv] at T
   have HB0 : Hid (w.heap.size ≤ w.heap.size) := Lib.hid (Nat.le_refl _)
   have HBS : Hid (w.heap.size < V.heap.size) := Lib.hid (by omega)
   by_cases hx : x = 0
   ·subst hx
    by_cases h4 : 1024 < c
    ·have HRD : Hid (RdOk S.data.toList zeroNd 2) := Lib.hid (.inr ⟨rfl, rfl, fun m hm e => by
      have := (HTK.out m hm (e.trans HL.out)).2; omega⟩)
     have q4 : decide ((1024 : Int) < (c : Int)) = true := decide_eq_true (by omega)
     have HR9 := HRV; have HB9 := HBV
     clear hv h4 h1 hRl HTK
     go_enter Tryz.func24, Tryz.ntmps24
     go_wp2_with fail
     rw [← HV.out]
     with_reducible refine (T.out _).mono ?_
     rintro e w1 ⟨rfl, hw1⟩
     subst hw1
     have p0 := HR9.out.cell 0; have p1 := HR9.out.cell 1; have p2 := HR9.out.cell 2; have p3 := HR9.out.cell 3
     have f0 := HR9.out.free 0; have f1 := HR9.out.free 1; have f2 := HR9.out.free 2; have f3 := HR9.out.free 3
     simp only [List.getElem?_toArray, List.getElem?_cons_zero, List.getElem?_cons_succ] at p0 p1 p2 p3
     go_wp2
     have hR4 := row4_row HR9.out (.int .i64 0) (.string ⟨#[]⟩) (.slice none 0 0) (.slice none 0 0)
     have d0 := hR4.cell 0; have d1 := hR4.cell 1; have d2 := hR4.cell 2; have d3 := hR4.cell 3
     simp only [List.getElem?_toArray, List.getElem?_cons_zero, List.getElem?_cons_succ] at d0 d1 d2 d3
     refine bodyPost_ret (v := .tuple #[.agg #[.int .i64 0, .string ⟨#[]⟩, .slice none 0 0, .slice none 0 0], .int .i64 2]) (by simp [results, Tryz.results24, go_sem, d0, d1, d2, d3]) rfl ?_
     exact ⟨zeroNd, 2, HRD.out, _, _, rfl, parts_nil _, entries_nil _, (((HB9.out.setCell (p := ⟨w.heap.size, 0, none⟩) HB0.out _).setCell (p := ⟨w.heap.size, 1, none⟩) HB0.out _).setCell (p := ⟨w.heap.size, 2, none⟩) HB0.out _).setCell (p := ⟨w.heap.size, 3, none⟩) HB0.out _⟩
    ·have q4 : decide ((1024 : Int) < (c : Int)) = false := decide_eq_false (by omega)
     have hj := (put_take hv).2.2.1
     obtain ⟨Q, hQ⟩ : ∃ Q, Q = (S.extract 1 S.size).extract j (S.extract 1 S.size).size := ⟨_, rfl⟩
     have hQl : Q.data.toList = r.drop j := by rw [hQ, drop_str, hRl]
     have hs2 : ∀ W, Sem.run Tryz.prog (Instr.slice 9 (.string (S.extract 1 S.size)) (some (.int .i64 (j : Int))) none none) W = .ok (.string Q) W := fun W => by
      rw [hQ]; exact run_slice_from (P := Tryz.prog) Tryz.underlying9 (S.extract 1 S.size) j (by rw [Lib.size_eq, hRl]; exact hj) W
     have hQs : Q.size ≤ 1000000 := by rw [Lib.size_eq, hQl, List.length_drop]; have := Lib.size_eq (S.extract 1 S.size); rw [hRl] at this; omega
     have hc4 : c ≤ 1024 := by omega
     by_cases h2 : b.toNat = 2
     ·have q2 : ((b.toNat : Int) == 2) = true := ie_t (by omega)
      have HB2K := Lib.hid h2
      have HGS := Lib.hid (gp_start (j := j) h2 hv)
      rw [← HL.out, ← hQl] at HGS
      have HKD : Hid (∀ m, fitN m = true → wrL m = S.data.toList → m.kd = 2) := Lib.hid (fun m hf h => by
       have := (wr_head hf (h.trans HL.out)).1
       rcases fit_kinds hf with e | e | e <;> omega)
      clear hv h4 hRl hj hQl hQ HTK h1 h2
      go_enter Tryz.func24, Tryz.ntmps24
      go_wp2_with fail
      rw [← HV.out]
      with_reducible refine (T.out _).mono ?_
      rintro e w1 ⟨rfl, hw1⟩
      subst hw1
      go_wp2
      go_loopw [5, 9, 10] (fun s o i wr => ∃ (k : Nat) (v : Value) (L : List Pt) (R : ByteArray) (ok : Bool), s = .string R ∧ o = .bool ok ∧ i = .int .u64 k ∧ R.size ≤ 1000000 ∧ L.length = k ∧ k ≤ c ∧ GP S.data.toList c k L R.data.toList ok ∧ Row wr (w.heap.size + 1) #[.int .i64 b.toNat, .string ⟨#[]⟩, v, .slice none 0 0] 44 ∧ Row wr w.heap.size #[.int .i64 0, .string ⟨#[]⟩, .slice none 0 0, .slice none 0 0] 44 ∧ OwnP w1.heap.size wr v L ∧ Below w.heap.size w wr ∧ w1.heap.size ≤ wr.heap.size) (fun _ _ i _ => c - (intOf i).toNat)
      case atStart => exact ⟨0, .slice none 0 0, [], Q, true, rfl, rfl, rfl, hQs, rfl, Nat.zero_le _, HGS.out, HXV.out, HRV.out, parts_own_nil _ _, HBV.out, Nat.le_refl _⟩
      case round =>
       obtain ⟨k, v, L, R, ok, rfl, rfl, rfl, hRz, hLk, hkc, hG, hX, hR, hO, hB, hszV⟩ := hrel
       have HG := Lib.hid hG; have HX := Lib.hid hX; have HR := Lib.hid hR; have HO := Lib.hid hO; have HB := Lib.hid hB
       obtain ⟨_, va, vc, hve, _, _⟩ := hO.is
       have HLK := Lib.hid hLk
       rw [hLk] at hve
       subst hve
       have x0 := hX.cell 0; have x1 := hX.cell 1; have x2 := hX.cell 2; have x3 := hX.cell 3
       simp only [List.getElem?_toArray, List.getElem?_cons_zero, List.getElem?_cons_succ] at x0 x1 x2 x3
       have hXlt := hX.lt
       clear hG hX hR hO hB hLk
       cases ok with
       | false =>
        have HE := Lib.hid (gp_end HG.out (fun h => by cases h) HKD.out HB2K.out)
        by_cases hk : k < c
        ·have qk : decide (k < c) = true := decide_eq_true hk
         have HRD := Lib.hid (rdd_bad HE.out)
         have HR9 := HR; have HB9 := HB
         have p0 := HR9.out.cell 0; have p1 := HR9.out.cell 1; have p2 := HR9.out.cell 2; have p3 := HR9.out.cell 3
         have f0 := HR9.out.free 0; have f1 := HR9.out.free 1; have f2 := HR9.out.free 2; have f3 := HR9.out.free 3
         simp only [List.getElem?_toArray, List.getElem?_cons_zero, List.getElem?_cons_succ] at p0 p1 p2 p3
         go_wp2
         have hR4 := row4_row HR9.out (.int .i64 0) (.string ⟨#[]⟩) (.slice none 0 0) (.slice none 0 0)
         have d0 := hR4.cell 0; have d1 := hR4.cell 1; have d2 := hR4.cell 2; have d3 := hR4.cell 3
         simp only [List.getElem?_toArray, List.getElem?_cons_zero, List.getElem?_cons_succ] at d0 d1 d2 d3
         refine bodyPost_ret (v := .tuple #[.agg #[.int .i64 0, .string ⟨#[]⟩, .slice none 0 0, .slice none 0 0], .int .i64 2]) (by simp [results, Tryz.results24, go_sem, d0, d1, d2, d3]) rfl ?_
         exact ⟨zeroNd, 2, HRD.out, _, _, rfl, parts_nil _, entries_nil _, (((HB9.out.setCell (p := ⟨w.heap.size, 0, none⟩) HB0.out _).setCell (p := ⟨w.heap.size, 1, none⟩) HB0.out _).setCell (p := ⟨w.heap.size, 2, none⟩) HB0.out _).setCell (p := ⟨w.heap.size, 3, none⟩) HB0.out _⟩
        ·have qk : decide (k < c) = false := decide_eq_false hk
         have HRD := Lib.hid (rdd_bad HE.out)
         have HR9 := HR; have HB9 := HB
         have p0 := HR9.out.cell 0; have p1 := HR9.out.cell 1; have p2 := HR9.out.cell 2; have p3 := HR9.out.cell 3
         have f0 := HR9.out.free 0; have f1 := HR9.out.free 1; have f2 := HR9.out.free 2; have f3 := HR9.out.free 3
         simp only [List.getElem?_toArray, List.getElem?_cons_zero, List.getElem?_cons_succ] at p0 p1 p2 p3
         go_wp2
         have hR4 := row4_row HR9.out (.int .i64 0) (.string ⟨#[]⟩) (.slice none 0 0) (.slice none 0 0)
         have d0 := hR4.cell 0; have d1 := hR4.cell 1; have d2 := hR4.cell 2; have d3 := hR4.cell 3
         simp only [List.getElem?_toArray, List.getElem?_cons_zero, List.getElem?_cons_succ] at d0 d1 d2 d3
         refine bodyPost_ret (v := .tuple #[.agg #[.int .i64 0, .string ⟨#[]⟩, .slice none 0 0, .slice none 0 0], .int .i64 2]) (by simp [results, Tryz.results24, go_sem, d0, d1, d2, d3]) rfl ?_
         exact ⟨zeroNd, 2, HRD.out, _, _, rfl, parts_nil _, entries_nil _, (((HB9.out.setCell (p := ⟨w.heap.size, 0, none⟩) HB0.out _).setCell (p := ⟨w.heap.size, 1, none⟩) HB0.out _).setCell (p := ⟨w.heap.size, 2, none⟩) HB0.out _).setCell (p := ⟨w.heap.size, 3, none⟩) HB0.out _⟩
       | true =>
        by_cases hk : k < c
        ·have qk : decide (k < c) = true := decide_eq_true hk
         have hw1 : IntKind.u64.wrap ((k : Int) + 1) = (k : Int) + 1 := by rw [IntKind.wrap_u64]; omega
         have P1 := Lib.hid (rpart_any R hRz)
         have hown := fun g (hg : (Value.slice va k vc).ownBlock = some g) => (HO.out.lt g hg).2
         cases hp : pPart R.data.toList with
         | none =>
          have HS := Lib.hid (fun L' R' => gp_bad (L' := L') (R' := R') HG.out hk hp HKD.out)
          rw [hp] at P1
          simp only [rPartV] at P1
          clear hp
          go_wp2_with fail
          with_reducible refine (P1.out _).mono ?_
          rintro e w2 ⟨rfl, hb2⟩
          have hb0 := (Below.refl wr.heap.size wr).alloc (Nat.le_refl _) (.cells #[.string ⟨#[]⟩, .int .i64 0] 74)
          have hb3 := below_step hb0 hb2
          have hP2 := (Row.made wr #[.string ⟨#[]⟩, .int .i64 0] 74).step hb2
          have hX2 := HX.out.step hb3
          have HR2 := Lib.hid (HR.out.step hb3)
          have HB2 := Lib.hid (below_step HB.out hb3)
          have HO2 := Lib.hid (HO.out.stays hb3)
          have hsz2 : wr.heap.size < w2.heap.size := hP2.lt
          clear x0 x1 x2 x3 hb0 hb2 hb3
          have x0 := hX2.cell 0; have x1 := hX2.cell 1; have x2 := hX2.cell 2; have x3 := hX2.cell 3
          have y0 := hX2.free 0; have y1 := hX2.free 1; have y2 := hX2.free 2; have y3 := hX2.free 3
          simp only [List.getElem?_toArray, List.getElem?_cons_zero, List.getElem?_cons_succ] at x0 x1 x2 x3
          have c0 := hP2.cell 0; have c1 := hP2.cell 1; have f0 := hP2.free 0; have f1 := hP2.free 1
          simp only [List.getElem?_toArray, List.getElem?_cons_zero, List.getElem?_cons_succ] at c0 c1
          have HO5 : Hid (OwnP w1.heap.size ((w2.setCell ⟨wr.heap.size, 0, none⟩ (.string ⟨#[]⟩)).setCell ⟨wr.heap.size, 1, none⟩ (.int .i64 0)) (.slice va k vc) L) := Lib.hid ((HO2.out.setNe (b := wr.heap.size) (i := 0) hown (.string ⟨#[]⟩)).setNe (b := wr.heap.size) (i := 1) hown (.int .i64 0))
          have hX5 := ((hX2.other ⟨wr.heap.size, 0, none⟩ (.string ⟨#[]⟩) (show w.heap.size + 1 ≠ wr.heap.size by omega)).other ⟨wr.heap.size, 1, none⟩ (.int .i64 0) (show w.heap.size + 1 ≠ wr.heap.size by omega))
          have HR5 := Lib.hid ((HR2.out.other ⟨wr.heap.size, 0, none⟩ (.string ⟨#[]⟩) (show w.heap.size ≠ wr.heap.size by omega)).other ⟨wr.heap.size, 1, none⟩ (.int .i64 0) (show w.heap.size ≠ wr.heap.size by omega))
          have HB5 := Lib.hid ((HB2.out.setCell (p := ⟨wr.heap.size, 0, none⟩) (by show w.heap.size ≤ wr.heap.size; omega) (.string ⟨#[]⟩)).setCell (p := ⟨wr.heap.size, 1, none⟩) (by show w.heap.size ≤ wr.heap.size; omega) (.int .i64 0))
          have hP5 := row2_row hP2 (.string ⟨#[]⟩) (.int .i64 0)
          have s0 := hX5.cell 0; have s1 := hX5.cell 1; have s2 := hX5.cell 2; have s3 := hX5.cell 3
          simp only [List.getElem?_toArray, List.getElem?_cons_zero, List.getElem?_cons_succ] at s0 s1 s2 s3
          have t0 := hP5.cell 0; have t1 := hP5.cell 1
          simp only [List.getElem?_toArray, List.getElem?_cons_zero, List.getElem?_cons_succ] at t0 t1
          have HX5 := Lib.hid hX5
          have hw5 : w1.heap.size ≤ ((w2.setCell ⟨wr.heap.size, 0, none⟩ (.string ⟨#[]⟩)).setCell ⟨wr.heap.size, 1, none⟩ (.int .i64 0)).heap.size := by simp [World.setCell]; omega
          have HZ5 : Hid (w2.heap.size = ((w2.setCell ⟨wr.heap.size, 0, none⟩ (.string ⟨#[]⟩)).setCell ⟨wr.heap.size, 1, none⟩ (.int .i64 0)).heap.size) := Lib.hid (by simp [World.setCell])
          have hLl : L.length ≤ 1000000 := by have := HLK.out; omega
          clear hX5 hP5 hX2 hP2
          go_wp2_with (at_builtin; refine wpList_append_parts2 (y := (⟨⟨#[]⟩, 0⟩ : Pt)) rfl _ _ rfl HO5.out hw5 HZ5.out rfl rfl hLl ?_)
          intro v' w6 hown6 hg6
          have hX6 := row_grownP HX5.out HO5.out hg6 (show w.heap.size + 1 < w1.heap.size by omega)
          have HR6 := Lib.hid (row_grownP HR5.out HO5.out hg6 (show w.heap.size < w1.heap.size by omega))
          have HB6 := Lib.hid (HB5.out.grown hg6 (by omega) (fun g hg => by have := (HO5.out.lt g hg).1; omega))
          have hsz6 := hg6.size
          obtain ⟨_, va2, vc2, hve, _, _⟩ := hown6.is
          subst hve
          have HO6 := Lib.hid (hown6.setBelow (a := ⟨w.heap.size + 1, 2, none⟩) (show w.heap.size + 1 < w1.heap.size by omega) (.slice va2 (L ++ [(⟨⟨#[]⟩, 0⟩ : Pt)]).length vc2))
          have z0 := hX6.cell 0; have z1 := hX6.cell 1; have z2 := hX6.cell 2; have z3 := hX6.cell 3
          have n0 := hX6.free 0; have n1 := hX6.free 1; have n2 := hX6.free 2; have n3 := hX6.free 3
          simp only [List.getElem?_toArray, List.getElem?_cons_zero, List.getElem?_cons_succ] at z0 z1 z2 z3
          have HX7 := Lib.hid (hX6.set 2 (.slice va2 (L ++ [(⟨⟨#[]⟩, 0⟩ : Pt)]).length vc2))
          have HR7 := Lib.hid (HR6.out.other ⟨w.heap.size + 1, 2, none⟩ (.slice va2 (L ++ [(⟨⟨#[]⟩, 0⟩ : Pt)]).length vc2) (show w.heap.size ≠ w.heap.size + 1 by omega))
          have HB7 := Lib.hid (HB6.out.setCell (p := ⟨w.heap.size + 1, 2, none⟩) (by simp) (.slice va2 (L ++ [(⟨⟨#[]⟩, 0⟩ : Pt)]).length vc2))
          have hlen : (L ++ [(⟨⟨#[]⟩, 0⟩ : Pt)]).length = k + 1 := by rw [List.length_append, HLK.out]; rfl
          obtain ⟨M, hM⟩ : ∃ M, M = L ++ [(⟨⟨#[]⟩, 0⟩ : Pt)] := ⟨_, rfl⟩
          rw [← hM] at HO6 HX7 HR7 HB7 hlen ⊢
          have HM := Lib.hid hM
          have HLE := Lib.hid hlen
          clear hX6 hown6 hg6 x0 x1 x2 x3 y0 y1 y2 y3 s0 s1 s2 s3 c0 f0 t0 c1 f1 t1 hM hlen hown
          go_wp2
          go_roundw
          case rel => exact ⟨k + 1, .slice va2 M.length vc2, M, ⟨#[]⟩, false, rfl, rfl, by go_num, by decide, HLE.out, by omega, HS.out _ _, HX7.out, HR7.out, HO6.out, HB7.out, by simp [World.setCell] at hsz6 ⊢; omega⟩
          case measure => simp [intOf]; omega
         | some y =>
          obtain ⟨p, R'⟩ := y
          have HS := Lib.hid (gp_step HG.out hk hp HKD.out)
          have hRl := pPart_rest hp
          rw [← Lib.size_eq] at hRl
          have hRz' : (⟨R'.toArray⟩ : ByteArray).size ≤ 1000000 := by rw [Lib.size_eq]; show R'.length ≤ _; omega
          rw [hp] at P1
          simp only [rPartV] at P1
          clear hp hRl
          go_wp2_with fail
          with_reducible refine (P1.out _).mono ?_
          rintro e w2 ⟨rfl, hb2⟩
          have hb0 := (Below.refl wr.heap.size wr).alloc (Nat.le_refl _) (.cells #[.string ⟨#[]⟩, .int .i64 0] 74)
          have hb3 := below_step hb0 hb2
          have hP2 := (Row.made wr #[.string ⟨#[]⟩, .int .i64 0] 74).step hb2
          have hX2 := HX.out.step hb3
          have HR2 := Lib.hid (HR.out.step hb3)
          have HB2 := Lib.hid (below_step HB.out hb3)
          have HO2 := Lib.hid (HO.out.stays hb3)
          have hsz2 : wr.heap.size < w2.heap.size := hP2.lt
          clear x0 x1 x2 x3 hb0 hb2 hb3
          have x0 := hX2.cell 0; have x1 := hX2.cell 1; have x2 := hX2.cell 2; have x3 := hX2.cell 3
          have y0 := hX2.free 0; have y1 := hX2.free 1; have y2 := hX2.free 2; have y3 := hX2.free 3
          simp only [List.getElem?_toArray, List.getElem?_cons_zero, List.getElem?_cons_succ] at x0 x1 x2 x3
          have c0 := hP2.cell 0; have c1 := hP2.cell 1; have f0 := hP2.free 0; have f1 := hP2.free 1
          simp only [List.getElem?_toArray, List.getElem?_cons_zero, List.getElem?_cons_succ] at c0 c1
          have HO5 : Hid (OwnP w1.heap.size ((w2.setCell ⟨wr.heap.size, 0, none⟩ (.string p.k)).setCell ⟨wr.heap.size, 1, none⟩ (.int .i64 p.n)) (.slice va k vc) L) := Lib.hid ((HO2.out.setNe (b := wr.heap.size) (i := 0) hown (.string p.k)).setNe (b := wr.heap.size) (i := 1) hown (.int .i64 p.n))
          have hX5 := ((hX2.other ⟨wr.heap.size, 0, none⟩ (.string p.k) (show w.heap.size + 1 ≠ wr.heap.size by omega)).other ⟨wr.heap.size, 1, none⟩ (.int .i64 p.n) (show w.heap.size + 1 ≠ wr.heap.size by omega))
          have HR5 := Lib.hid ((HR2.out.other ⟨wr.heap.size, 0, none⟩ (.string p.k) (show w.heap.size ≠ wr.heap.size by omega)).other ⟨wr.heap.size, 1, none⟩ (.int .i64 p.n) (show w.heap.size ≠ wr.heap.size by omega))
          have HB5 := Lib.hid ((HB2.out.setCell (p := ⟨wr.heap.size, 0, none⟩) (by show w.heap.size ≤ wr.heap.size; omega) (.string p.k)).setCell (p := ⟨wr.heap.size, 1, none⟩) (by show w.heap.size ≤ wr.heap.size; omega) (.int .i64 p.n))
          have hP5 := row2_row hP2 (.string p.k) (.int .i64 p.n)
          have s0 := hX5.cell 0; have s1 := hX5.cell 1; have s2 := hX5.cell 2; have s3 := hX5.cell 3
          simp only [List.getElem?_toArray, List.getElem?_cons_zero, List.getElem?_cons_succ] at s0 s1 s2 s3
          have t0 := hP5.cell 0; have t1 := hP5.cell 1
          simp only [List.getElem?_toArray, List.getElem?_cons_zero, List.getElem?_cons_succ] at t0 t1
          have HX5 := Lib.hid hX5
          have hw5 : w1.heap.size ≤ ((w2.setCell ⟨wr.heap.size, 0, none⟩ (.string p.k)).setCell ⟨wr.heap.size, 1, none⟩ (.int .i64 p.n)).heap.size := by simp [World.setCell]; omega
          have HZ5 : Hid (w2.heap.size = ((w2.setCell ⟨wr.heap.size, 0, none⟩ (.string p.k)).setCell ⟨wr.heap.size, 1, none⟩ (.int .i64 p.n)).heap.size) := Lib.hid (by simp [World.setCell])
          have hLl : L.length ≤ 1000000 := by have := HLK.out; omega
          clear hX5 hP5 hX2 hP2
          go_wp2_with (at_builtin; refine wpList_append_parts2 (y := p) rfl _ _ rfl HO5.out hw5 HZ5.out rfl rfl hLl ?_)
          intro v' w6 hown6 hg6
          have hX6 := row_grownP HX5.out HO5.out hg6 (show w.heap.size + 1 < w1.heap.size by omega)
          have HR6 := Lib.hid (row_grownP HR5.out HO5.out hg6 (show w.heap.size < w1.heap.size by omega))
          have HB6 := Lib.hid (HB5.out.grown hg6 (by omega) (fun g hg => by have := (HO5.out.lt g hg).1; omega))
          have hsz6 := hg6.size
          obtain ⟨_, va2, vc2, hve, _, _⟩ := hown6.is
          subst hve
          have HO6 := Lib.hid (hown6.setBelow (a := ⟨w.heap.size + 1, 2, none⟩) (show w.heap.size + 1 < w1.heap.size by omega) (.slice va2 (L ++ [p]).length vc2))
          have z0 := hX6.cell 0; have z1 := hX6.cell 1; have z2 := hX6.cell 2; have z3 := hX6.cell 3
          have n0 := hX6.free 0; have n1 := hX6.free 1; have n2 := hX6.free 2; have n3 := hX6.free 3
          simp only [List.getElem?_toArray, List.getElem?_cons_zero, List.getElem?_cons_succ] at z0 z1 z2 z3
          have HX7 := Lib.hid (hX6.set 2 (.slice va2 (L ++ [p]).length vc2))
          have HR7 := Lib.hid (HR6.out.other ⟨w.heap.size + 1, 2, none⟩ (.slice va2 (L ++ [p]).length vc2) (show w.heap.size ≠ w.heap.size + 1 by omega))
          have HB7 := Lib.hid (HB6.out.setCell (p := ⟨w.heap.size + 1, 2, none⟩) (by simp) (.slice va2 (L ++ [p]).length vc2))
          have hlen : (L ++ [p]).length = k + 1 := by rw [List.length_append, HLK.out]; rfl
          obtain ⟨M, hM⟩ : ∃ M, M = L ++ [p] := ⟨_, rfl⟩
          rw [← hM] at HO6 HX7 HR7 HB7 hlen ⊢
          have HM := Lib.hid hM
          have HLE := Lib.hid hlen
          clear hX6 hown6 hg6 x0 x1 x2 x3 y0 y1 y2 y3 s0 s1 s2 s3 c0 f0 t0 c1 f1 t1 hM hlen hown
          go_wp2
          go_roundw
          case rel => exact ⟨k + 1, .slice va2 M.length vc2, M, ⟨R'.toArray⟩, true, rfl, rfl, by go_num, hRz', HLE.out, by omega, by rw [HM.out]; exact HS.out, HX7.out, HR7.out, HO6.out, HB7.out, by simp [World.setCell] at hsz6 ⊢; omega⟩
          case measure => simp [intOf]; omega
        ·have qk : decide (k < c) = false := decide_eq_false hk
         have HE := Lib.hid (gp_end HG.out (fun _ => by omega) HKD.out HB2K.out)
         clear x0 x1 x2 x3
         obtain ⟨n, hn⟩ : ∃ n : Nd, n = ⟨(b.toNat : Int), ⟨#[]⟩, L, []⟩ := ⟨_, rfl⟩
         have hnkd : n.kd = b.toNat := by rw [hn]
         have hnd : n.d = ⟨#[]⟩ := by rw [hn]
         have HGN := Lib.hid (show GN S.data.toList n true from by rw [hn]; exact HE.out)
         have HOP : Hid (OwnP w1.heap.size wr (.slice va k vc) n.ps) := Lib.hid (by rw [hn]; exact HO.out)
         have HOE : Hid (OwnE w1.heap.size wr (.slice none 0 0) n.es) := Lib.hid (by rw [hn]; exact entries_own_nil _ _)
         have RF := Lib.hid (rFit_any n (.slice va k vc) (.slice none 0 0) (wr) HOP.out.is HOE.out.is)
         rw [show ndV n (.slice va k vc) (.slice none 0 0) = .agg #[.int .i64 (b.toNat), .string (⟨#[]⟩), .slice va k vc, .slice none 0 0] by unfold ndV; rw [hnkd, hnd]] at RF
         have x0 := HX.out.cell 0; have x1 := HX.out.cell 1; have x2 := HX.out.cell 2; have x3 := HX.out.cell 3
         simp only [List.getElem?_toArray, List.getElem?_cons_zero, List.getElem?_cons_succ] at x0 x1 x2 x3
         have HNK := Lib.hid hnkd; have HND := Lib.hid hnd
         rcases hf : fitN n with _ | _
         ·rw [hf] at RF
          have HRD := Lib.hid (rdd_unfit HGN.out hf)
          clear hf hn hnkd hnd
          go_wp2_with fail
          with_reducible refine RF.out.mono ?_
          rintro e w8 ⟨rfl, hb8⟩
          have HR9 := Lib.hid (HR.out.step hb8)
          have HB9 := Lib.hid (HB.out.trans (hb8.mono HB.out.size))
          clear x0 x1 x2 x3 hb8
          have p0 := HR9.out.cell 0; have p1 := HR9.out.cell 1; have p2 := HR9.out.cell 2; have p3 := HR9.out.cell 3
          have f0 := HR9.out.free 0; have f1 := HR9.out.free 1; have f2 := HR9.out.free 2; have f3 := HR9.out.free 3
          simp only [List.getElem?_toArray, List.getElem?_cons_zero, List.getElem?_cons_succ] at p0 p1 p2 p3
          go_wp2
          have hR4 := row4_row HR9.out (.int .i64 0) (.string ⟨#[]⟩) (.slice none 0 0) (.slice none 0 0)
          have d0 := hR4.cell 0; have d1 := hR4.cell 1; have d2 := hR4.cell 2; have d3 := hR4.cell 3
          simp only [List.getElem?_toArray, List.getElem?_cons_zero, List.getElem?_cons_succ] at d0 d1 d2 d3
          refine bodyPost_ret (v := .tuple #[.agg #[.int .i64 0, .string ⟨#[]⟩, .slice none 0 0, .slice none 0 0], .int .i64 2]) (by simp [results, Tryz.results24, go_sem, d0, d1, d2, d3]) rfl ?_
          exact ⟨zeroNd, 2, HRD.out, _, _, rfl, parts_nil _, entries_nil _, (((HB9.out.setCell (p := ⟨w.heap.size, 0, none⟩) HB0.out _).setCell (p := ⟨w.heap.size, 1, none⟩) HB0.out _).setCell (p := ⟨w.heap.size, 2, none⟩) HB0.out _).setCell (p := ⟨w.heap.size, 3, none⟩) HB0.out _⟩
         ·rw [hf] at RF
          have HFN := Lib.hid hf
          clear hf hn hnkd hnd
          go_wp2_with fail
          with_reducible refine RF.out.mono ?_
          rintro e w8 ⟨rfl, hb8⟩
          have HR8 := Lib.hid (HR.out.step hb8)
          have HX8 := Lib.hid (HX.out.step hb8)
          have HB8 := Lib.hid (HB.out.trans (hb8.mono HB.out.size))
          have HOP8 := Lib.hid (HOP.out.stays hb8); have HOE8 := Lib.hid (HOE.out.stays hb8)
          have RW := Lib.hid (rWriteF_any n (.slice va k vc) (.slice none 0 0) w8 HOP8.out.is HOE8.out.is HFN.out)
          rw [show ndV n (.slice va k vc) (.slice none 0 0) = .agg #[.int .i64 (b.toNat), .string (⟨#[]⟩), .slice va k vc, .slice none 0 0] by unfold ndV; rw [HNK.out, HND.out]] at RW
          rw [wrN_fit HFN.out] at RW
          clear x0 x1 x2 x3
          have x0 := HX8.out.cell 0; have x1 := HX8.out.cell 1; have x2 := HX8.out.cell 2; have x3 := HX8.out.cell 3
          simp only [List.getElem?_toArray, List.getElem?_cons_zero, List.getElem?_cons_succ] at x0 x1 x2 x3
          obtain ⟨Y, hY1, hY2⟩ := ex_str (wrL n)
          rw [← hY1] at RW
          by_cases hys : Y = S
          ·have y1 := beq_true hys
           have y2 : (!(Y.toList == S.toList)) = false := by rw [y1]; rfl
           have HRD : Hid (RdOk S.data.toList n 0) := Lib.hid (.inl ⟨rfl, HFN.out, by rw [← hY2, hys]⟩)
           clear hys hY1 hY2 hb8
           go_wp2_with fail
           with_reducible refine RW.out.mono ?_
           rintro e w9 ⟨rfl, hb9⟩
           have HR9 := Lib.hid (HR8.out.step hb9)
           have HX9 := HX8.out.step hb9
           have HB9 := Lib.hid (HB8.out.trans (hb9.mono HB8.out.size))
           have HOP9 := Lib.hid (HOP8.out.stays hb9); have HOE9 := Lib.hid (HOE8.out.stays hb9)
           clear x0 x1 x2 x3 hb9
           have x0 := HX9.cell 0; have x1 := HX9.cell 1; have x2 := HX9.cell 2; have x3 := HX9.cell 3
           have p0 := HR9.out.cell 0; have p1 := HR9.out.cell 1; have p2 := HR9.out.cell 2; have p3 := HR9.out.cell 3
           have f0 := HR9.out.free 0; have f1 := HR9.out.free 1; have f2 := HR9.out.free 2; have f3 := HR9.out.free 3
           simp only [List.getElem?_toArray, List.getElem?_cons_zero, List.getElem?_cons_succ] at p0 p1 p2 p3 x0 x1 x2 x3
           clear HX9
           go_wp2
           have hR4 := row4_row HR9.out (.int .i64 (b.toNat)) (.string (⟨#[]⟩)) (.slice va k vc) (.slice none 0 0)
           have d0 := hR4.cell 0; have d1 := hR4.cell 1; have d2 := hR4.cell 2; have d3 := hR4.cell 3
           simp only [List.getElem?_toArray, List.getElem?_cons_zero, List.getElem?_cons_succ] at d0 d1 d2 d3
           refine bodyPost_ret (v := .tuple #[.agg #[.int .i64 (b.toNat), .string (⟨#[]⟩), .slice va k vc, .slice none 0 0], .int .i64 0]) (by simp [results, Tryz.results24, go_sem, d0, d1, d2, d3]) rfl ?_
           refine ⟨n, 0, HRD.out, .slice va k vc, .slice none 0 0, by rw [show ndV n (.slice va k vc) (.slice none 0 0) = .agg #[.int .i64 (b.toNat), .string (⟨#[]⟩), .slice va k vc, .slice none 0 0] by unfold ndV; rw [HNK.out, HND.out]], ?_, ?_, (((HB9.out.setCell (p := ⟨w.heap.size, 0, none⟩) HB0.out _).setCell (p := ⟨w.heap.size, 1, none⟩) HB0.out _).setCell (p := ⟨w.heap.size, 2, none⟩) HB0.out _).setCell (p := ⟨w.heap.size, 3, none⟩) HB0.out _⟩
           ·exact ((((HOP9.out.setBelow (a := ⟨w.heap.size, 0, none⟩) HBS.out _).setBelow (a := ⟨w.heap.size, 1, none⟩) HBS.out _).setBelow (a := ⟨w.heap.size, 2, none⟩) HBS.out _).setBelow (a := ⟨w.heap.size, 3, none⟩) HBS.out _).is
           ·exact ((((HOE9.out.setBelow (a := ⟨w.heap.size, 0, none⟩) HBS.out _).setBelow (a := ⟨w.heap.size, 1, none⟩) HBS.out _).setBelow (a := ⟨w.heap.size, 2, none⟩) HBS.out _).setBelow (a := ⟨w.heap.size, 3, none⟩) HBS.out _).is
          ·have y1 := beq_false hys
           have y2 : (!(Y.toList == S.toList)) = true := by rw [y1]; rfl
           have HRD := Lib.hid (rdd_other HGN.out (fun e => hys (str_eq' (by rw [hY2]; exact e))))
           clear hys hY1 hY2 hb8
           go_wp2_with fail
           with_reducible refine RW.out.mono ?_
           rintro e w9 ⟨rfl, hb9⟩
           have HR9 := Lib.hid (HR8.out.step hb9)
           have HB9 := Lib.hid (HB8.out.trans (hb9.mono HB8.out.size))
           clear x0 x1 x2 x3 hb9
           have p0 := HR9.out.cell 0; have p1 := HR9.out.cell 1; have p2 := HR9.out.cell 2; have p3 := HR9.out.cell 3
           have f0 := HR9.out.free 0; have f1 := HR9.out.free 1; have f2 := HR9.out.free 2; have f3 := HR9.out.free 3
           simp only [List.getElem?_toArray, List.getElem?_cons_zero, List.getElem?_cons_succ] at p0 p1 p2 p3
           go_wp2
           have hR4 := row4_row HR9.out (.int .i64 0) (.string ⟨#[]⟩) (.slice none 0 0) (.slice none 0 0)
           have d0 := hR4.cell 0; have d1 := hR4.cell 1; have d2 := hR4.cell 2; have d3 := hR4.cell 3
           simp only [List.getElem?_toArray, List.getElem?_cons_zero, List.getElem?_cons_succ] at d0 d1 d2 d3
           refine bodyPost_ret (v := .tuple #[.agg #[.int .i64 0, .string ⟨#[]⟩, .slice none 0 0, .slice none 0 0], .int .i64 2]) (by simp [results, Tryz.results24, go_sem, d0, d1, d2, d3]) rfl ?_
           exact ⟨zeroNd, 2, HRD.out, _, _, rfl, parts_nil _, entries_nil _, (((HB9.out.setCell (p := ⟨w.heap.size, 0, none⟩) HB0.out _).setCell (p := ⟨w.heap.size, 1, none⟩) HB0.out _).setCell (p := ⟨w.heap.size, 2, none⟩) HB0.out _).setCell (p := ⟨w.heap.size, 3, none⟩) HB0.out _⟩
     ·have q2 : ((b.toNat : Int) == 2) = false := ie_f (by omega)
      have HGS := Lib.hid (ge_start (j := j) h1 h2 hv)
      rw [← HL.out, ← hQl] at HGS
      have HKD : Hid (∀ m, fitN m = true → wrL m = S.data.toList → m.kd = 3 ∧ b.toNat = 3) := Lib.hid (fun m hf h => by
       have := (wr_head hf (h.trans HL.out)).1
       rcases fit_kinds hf with e | e | e <;> omega)
      clear hv h4 hRl hj hQl hQ HTK h1 h2
      go_enter Tryz.func24, Tryz.ntmps24
      go_wp2_with fail
      rw [← HV.out]
      with_reducible refine (T.out _).mono ?_
      rintro e w1 ⟨rfl, hw1⟩
      subst hw1
      go_wp2
      go_loopw [5, 9, 10] (fun s o i wr => ∃ (k : Nat) (v : Value) (L : List En) (R : ByteArray) (ok : Bool), s = .string R ∧ o = .bool ok ∧ i = .int .u64 k ∧ R.size ≤ 1000000 ∧ L.length = k ∧ k ≤ c ∧ GE S.data.toList c k L R.data.toList ok ∧ Row wr (w.heap.size + 1) #[.int .i64 b.toNat, .string ⟨#[]⟩, .slice none 0 0, v] 44 ∧ Row wr w.heap.size #[.int .i64 0, .string ⟨#[]⟩, .slice none 0 0, .slice none 0 0] 44 ∧ OwnE w1.heap.size wr v L ∧ Below w.heap.size w wr ∧ w1.heap.size ≤ wr.heap.size) (fun _ _ i _ => c - (intOf i).toNat)
      case atStart => exact ⟨0, .slice none 0 0, [], Q, true, rfl, rfl, rfl, hQs, rfl, Nat.zero_le _, HGS.out, HXV.out, HRV.out, entries_own_nil _ _, HBV.out, Nat.le_refl _⟩
      case round =>
       obtain ⟨k, v, L, R, ok, rfl, rfl, rfl, hRz, hLk, hkc, hG, hX, hR, hO, hB, hszV⟩ := hrel
       have HG := Lib.hid hG; have HX := Lib.hid hX; have HR := Lib.hid hR; have HO := Lib.hid hO; have HB := Lib.hid hB
       obtain ⟨_, va, vc, hve, _, _⟩ := hO.is
       have HLK := Lib.hid hLk
       rw [hLk] at hve
       subst hve
       have x0 := hX.cell 0; have x1 := hX.cell 1; have x2 := hX.cell 2; have x3 := hX.cell 3
       simp only [List.getElem?_toArray, List.getElem?_cons_zero, List.getElem?_cons_succ] at x0 x1 x2 x3
       have hXlt := hX.lt
       clear hG hX hR hO hB hLk
       cases ok with
       | false =>
        have HE := Lib.hid (ge_end HG.out (fun h => by cases h) HKD.out)
        by_cases hk : k < c
        ·have qk : decide (k < c) = true := decide_eq_true hk
         have HRD := Lib.hid (rdd_bad HE.out)
         have HR9 := HR; have HB9 := HB
         have p0 := HR9.out.cell 0; have p1 := HR9.out.cell 1; have p2 := HR9.out.cell 2; have p3 := HR9.out.cell 3
         have f0 := HR9.out.free 0; have f1 := HR9.out.free 1; have f2 := HR9.out.free 2; have f3 := HR9.out.free 3
         simp only [List.getElem?_toArray, List.getElem?_cons_zero, List.getElem?_cons_succ] at p0 p1 p2 p3
         go_wp2
         have hR4 := row4_row HR9.out (.int .i64 0) (.string ⟨#[]⟩) (.slice none 0 0) (.slice none 0 0)
         have d0 := hR4.cell 0; have d1 := hR4.cell 1; have d2 := hR4.cell 2; have d3 := hR4.cell 3
         simp only [List.getElem?_toArray, List.getElem?_cons_zero, List.getElem?_cons_succ] at d0 d1 d2 d3
         refine bodyPost_ret (v := .tuple #[.agg #[.int .i64 0, .string ⟨#[]⟩, .slice none 0 0, .slice none 0 0], .int .i64 2]) (by simp [results, Tryz.results24, go_sem, d0, d1, d2, d3]) rfl ?_
         exact ⟨zeroNd, 2, HRD.out, _, _, rfl, parts_nil _, entries_nil _, (((HB9.out.setCell (p := ⟨w.heap.size, 0, none⟩) HB0.out _).setCell (p := ⟨w.heap.size, 1, none⟩) HB0.out _).setCell (p := ⟨w.heap.size, 2, none⟩) HB0.out _).setCell (p := ⟨w.heap.size, 3, none⟩) HB0.out _⟩
        ·have qk : decide (k < c) = false := decide_eq_false hk
         have HRD := Lib.hid (rdd_bad HE.out)
         have HR9 := HR; have HB9 := HB
         have p0 := HR9.out.cell 0; have p1 := HR9.out.cell 1; have p2 := HR9.out.cell 2; have p3 := HR9.out.cell 3
         have f0 := HR9.out.free 0; have f1 := HR9.out.free 1; have f2 := HR9.out.free 2; have f3 := HR9.out.free 3
         simp only [List.getElem?_toArray, List.getElem?_cons_zero, List.getElem?_cons_succ] at p0 p1 p2 p3
         go_wp2
         have hR4 := row4_row HR9.out (.int .i64 0) (.string ⟨#[]⟩) (.slice none 0 0) (.slice none 0 0)
         have d0 := hR4.cell 0; have d1 := hR4.cell 1; have d2 := hR4.cell 2; have d3 := hR4.cell 3
         simp only [List.getElem?_toArray, List.getElem?_cons_zero, List.getElem?_cons_succ] at d0 d1 d2 d3
         refine bodyPost_ret (v := .tuple #[.agg #[.int .i64 0, .string ⟨#[]⟩, .slice none 0 0, .slice none 0 0], .int .i64 2]) (by simp [results, Tryz.results24, go_sem, d0, d1, d2, d3]) rfl ?_
         exact ⟨zeroNd, 2, HRD.out, _, _, rfl, parts_nil _, entries_nil _, (((HB9.out.setCell (p := ⟨w.heap.size, 0, none⟩) HB0.out _).setCell (p := ⟨w.heap.size, 1, none⟩) HB0.out _).setCell (p := ⟨w.heap.size, 2, none⟩) HB0.out _).setCell (p := ⟨w.heap.size, 3, none⟩) HB0.out _⟩
       | true =>
        by_cases hk : k < c
        ·have qk : decide (k < c) = true := decide_eq_true hk
         have hw1 : IntKind.u64.wrap ((k : Int) + 1) = (k : Int) + 1 := by rw [IntKind.wrap_u64]; omega
         have P1 := Lib.hid (rentry_any R hRz)
         have hown := fun g (hg : (Value.slice va k vc).ownBlock = some g) => (HO.out.lt g hg).2
         cases hp : dEntry R.data.toList with
         | none =>
          have HS := Lib.hid (fun L' R' => ge_bad (L' := L') (R' := R') HG.out hk hp (fun m hf h => (HKD.out m hf h).1))
          rw [hp] at P1
          simp only [rEntryV] at P1
          clear hp
          go_wp2_with fail
          with_reducible refine (P1.out _).mono ?_
          rintro e w2 ⟨rfl, hb2⟩
          have hb0 := (Below.refl wr.heap.size wr).alloc (Nat.le_refl _) (.cells #[.string ⟨#[]⟩, .int .i64 0, .bool false, .string ⟨#[]⟩] 78)
          have hb3 := below_step hb0 hb2
          have hP2 := (Row.made wr #[.string ⟨#[]⟩, .int .i64 0, .bool false, .string ⟨#[]⟩] 78).step hb2
          have hX2 := HX.out.step hb3
          have HR2 := Lib.hid (HR.out.step hb3)
          have HB2 := Lib.hid (below_step HB.out hb3)
          have HO2 := Lib.hid (HO.out.stays hb3)
          have hsz2 : wr.heap.size < w2.heap.size := hP2.lt
          clear x0 x1 x2 x3 hb0 hb2 hb3
          have x0 := hX2.cell 0; have x1 := hX2.cell 1; have x2 := hX2.cell 2; have x3 := hX2.cell 3
          have y0 := hX2.free 0; have y1 := hX2.free 1; have y2 := hX2.free 2; have y3 := hX2.free 3
          simp only [List.getElem?_toArray, List.getElem?_cons_zero, List.getElem?_cons_succ] at x0 x1 x2 x3
          have c0 := hP2.cell 0; have c1 := hP2.cell 1; have c2 := hP2.cell 2; have c3 := hP2.cell 3; have f0 := hP2.free 0; have f1 := hP2.free 1; have f2 := hP2.free 2; have f3 := hP2.free 3
          simp only [List.getElem?_toArray, List.getElem?_cons_zero, List.getElem?_cons_succ] at c0 c1 c2 c3
          have HO5 : Hid (OwnE w1.heap.size ((((w2.setCell ⟨wr.heap.size, 0, none⟩ (.string ⟨#[]⟩)).setCell ⟨wr.heap.size, 1, none⟩ (.int .i64 0)).setCell ⟨wr.heap.size, 2, none⟩ (.bool false)).setCell ⟨wr.heap.size, 3, none⟩ (.string ⟨#[]⟩)) (.slice va k vc) L) := Lib.hid ((((HO2.out.setNe (b := wr.heap.size) (i := 0) hown (.string ⟨#[]⟩)).setNe (b := wr.heap.size) (i := 1) hown (.int .i64 0)).setNe (b := wr.heap.size) (i := 2) hown (.bool false)).setNe (b := wr.heap.size) (i := 3) hown (.string ⟨#[]⟩))
          have hX5 := ((((hX2.other ⟨wr.heap.size, 0, none⟩ (.string ⟨#[]⟩) (show w.heap.size + 1 ≠ wr.heap.size by omega)).other ⟨wr.heap.size, 1, none⟩ (.int .i64 0) (show w.heap.size + 1 ≠ wr.heap.size by omega)).other ⟨wr.heap.size, 2, none⟩ (.bool false) (show w.heap.size + 1 ≠ wr.heap.size by omega)).other ⟨wr.heap.size, 3, none⟩ (.string ⟨#[]⟩) (show w.heap.size + 1 ≠ wr.heap.size by omega))
          have HR5 := Lib.hid ((((HR2.out.other ⟨wr.heap.size, 0, none⟩ (.string ⟨#[]⟩) (show w.heap.size ≠ wr.heap.size by omega)).other ⟨wr.heap.size, 1, none⟩ (.int .i64 0) (show w.heap.size ≠ wr.heap.size by omega)).other ⟨wr.heap.size, 2, none⟩ (.bool false) (show w.heap.size ≠ wr.heap.size by omega)).other ⟨wr.heap.size, 3, none⟩ (.string ⟨#[]⟩) (show w.heap.size ≠ wr.heap.size by omega))
          have HB5 := Lib.hid ((((HB2.out.setCell (p := ⟨wr.heap.size, 0, none⟩) (by show w.heap.size ≤ wr.heap.size; omega) (.string ⟨#[]⟩)).setCell (p := ⟨wr.heap.size, 1, none⟩) (by show w.heap.size ≤ wr.heap.size; omega) (.int .i64 0)).setCell (p := ⟨wr.heap.size, 2, none⟩) (by show w.heap.size ≤ wr.heap.size; omega) (.bool false)).setCell (p := ⟨wr.heap.size, 3, none⟩) (by show w.heap.size ≤ wr.heap.size; omega) (.string ⟨#[]⟩))
          have hP5 := row4_row hP2 (.string ⟨#[]⟩) (.int .i64 0) (.bool false) (.string ⟨#[]⟩)
          have s0 := hX5.cell 0; have s1 := hX5.cell 1; have s2 := hX5.cell 2; have s3 := hX5.cell 3
          simp only [List.getElem?_toArray, List.getElem?_cons_zero, List.getElem?_cons_succ] at s0 s1 s2 s3
          have t0 := hP5.cell 0; have t1 := hP5.cell 1; have t2 := hP5.cell 2; have t3 := hP5.cell 3
          simp only [List.getElem?_toArray, List.getElem?_cons_zero, List.getElem?_cons_succ] at t0 t1 t2 t3
          have HX5 := Lib.hid hX5
          have hw5 : w1.heap.size ≤ ((((w2.setCell ⟨wr.heap.size, 0, none⟩ (.string ⟨#[]⟩)).setCell ⟨wr.heap.size, 1, none⟩ (.int .i64 0)).setCell ⟨wr.heap.size, 2, none⟩ (.bool false)).setCell ⟨wr.heap.size, 3, none⟩ (.string ⟨#[]⟩)).heap.size := by simp [World.setCell]; omega
          have HZ5 : Hid (w2.heap.size = ((((w2.setCell ⟨wr.heap.size, 0, none⟩ (.string ⟨#[]⟩)).setCell ⟨wr.heap.size, 1, none⟩ (.int .i64 0)).setCell ⟨wr.heap.size, 2, none⟩ (.bool false)).setCell ⟨wr.heap.size, 3, none⟩ (.string ⟨#[]⟩)).heap.size) := Lib.hid (by simp [World.setCell])
          have hLl : L.length ≤ 1000000 := by have := HLK.out; omega
          clear hX5 hP5 hX2 hP2
          go_wp2_with (at_builtin; refine wpList_append_entries2 (y := (⟨⟨#[]⟩, 0, false, ⟨#[]⟩⟩ : En)) rfl _ _ rfl HO5.out hw5 HZ5.out rfl rfl hLl ?_)
          intro v' w6 hown6 hg6
          have hX6 := row_grownE HX5.out HO5.out hg6 (show w.heap.size + 1 < w1.heap.size by omega)
          have HR6 := Lib.hid (row_grownE HR5.out HO5.out hg6 (show w.heap.size < w1.heap.size by omega))
          have HB6 := Lib.hid (HB5.out.grown hg6 (by omega) (fun g hg => by have := (HO5.out.lt g hg).1; omega))
          have hsz6 := hg6.size
          obtain ⟨_, va2, vc2, hve, _, _⟩ := hown6.is
          subst hve
          have HO6 := Lib.hid (hown6.setBelow (a := ⟨w.heap.size + 1, 3, none⟩) (show w.heap.size + 1 < w1.heap.size by omega) (.slice va2 (L ++ [(⟨⟨#[]⟩, 0, false, ⟨#[]⟩⟩ : En)]).length vc2))
          have z0 := hX6.cell 0; have z1 := hX6.cell 1; have z2 := hX6.cell 2; have z3 := hX6.cell 3
          have n0 := hX6.free 0; have n1 := hX6.free 1; have n2 := hX6.free 2; have n3 := hX6.free 3
          simp only [List.getElem?_toArray, List.getElem?_cons_zero, List.getElem?_cons_succ] at z0 z1 z2 z3
          have HX7 := Lib.hid (hX6.set 3 (.slice va2 (L ++ [(⟨⟨#[]⟩, 0, false, ⟨#[]⟩⟩ : En)]).length vc2))
          have HR7 := Lib.hid (HR6.out.other ⟨w.heap.size + 1, 3, none⟩ (.slice va2 (L ++ [(⟨⟨#[]⟩, 0, false, ⟨#[]⟩⟩ : En)]).length vc2) (show w.heap.size ≠ w.heap.size + 1 by omega))
          have HB7 := Lib.hid (HB6.out.setCell (p := ⟨w.heap.size + 1, 3, none⟩) (by simp) (.slice va2 (L ++ [(⟨⟨#[]⟩, 0, false, ⟨#[]⟩⟩ : En)]).length vc2))
          have hlen : (L ++ [(⟨⟨#[]⟩, 0, false, ⟨#[]⟩⟩ : En)]).length = k + 1 := by rw [List.length_append, HLK.out]; rfl
          obtain ⟨M, hM⟩ : ∃ M, M = L ++ [(⟨⟨#[]⟩, 0, false, ⟨#[]⟩⟩ : En)] := ⟨_, rfl⟩
          rw [← hM] at HO6 HX7 HR7 HB7 hlen ⊢
          have HM := Lib.hid hM
          have HLE := Lib.hid hlen
          clear hX6 hown6 hg6 x0 x1 x2 x3 y0 y1 y2 y3 s0 s1 s2 s3 c0 f0 t0 c1 f1 t1 c2 f2 t2 c3 f3 t3 hM hlen hown
          go_wp2
          go_roundw
          case rel => exact ⟨k + 1, .slice va2 M.length vc2, M, ⟨#[]⟩, false, rfl, rfl, by go_num, by decide, HLE.out, by omega, HS.out _ _, HX7.out, HR7.out, HO6.out, HB7.out, by simp [World.setCell] at hsz6 ⊢; omega⟩
          case measure => simp [intOf]; omega
         | some y =>
          obtain ⟨p, R', qo⟩ := y
          have HS := Lib.hid (ge_step HG.out hk hp (fun m hf h => (HKD.out m hf h).1))
          have hRl := dEntry_rest hp
          rw [← Lib.size_eq] at hRl
          have hRz' : (⟨R'.toArray⟩ : ByteArray).size ≤ 1000000 := by rw [Lib.size_eq]; show R'.length ≤ _; omega
          rw [hp] at P1
          simp only [rEntryV] at P1
          clear hp hRl
          go_wp2_with fail
          with_reducible refine (P1.out _).mono ?_
          rintro e w2 ⟨rfl, hb2⟩
          have hb0 := (Below.refl wr.heap.size wr).alloc (Nat.le_refl _) (.cells #[.string ⟨#[]⟩, .int .i64 0, .bool false, .string ⟨#[]⟩] 78)
          have hb3 := below_step hb0 hb2
          have hP2 := (Row.made wr #[.string ⟨#[]⟩, .int .i64 0, .bool false, .string ⟨#[]⟩] 78).step hb2
          have hX2 := HX.out.step hb3
          have HR2 := Lib.hid (HR.out.step hb3)
          have HB2 := Lib.hid (below_step HB.out hb3)
          have HO2 := Lib.hid (HO.out.stays hb3)
          have hsz2 : wr.heap.size < w2.heap.size := hP2.lt
          clear x0 x1 x2 x3 hb0 hb2 hb3
          have x0 := hX2.cell 0; have x1 := hX2.cell 1; have x2 := hX2.cell 2; have x3 := hX2.cell 3
          have y0 := hX2.free 0; have y1 := hX2.free 1; have y2 := hX2.free 2; have y3 := hX2.free 3
          simp only [List.getElem?_toArray, List.getElem?_cons_zero, List.getElem?_cons_succ] at x0 x1 x2 x3
          have c0 := hP2.cell 0; have c1 := hP2.cell 1; have c2 := hP2.cell 2; have c3 := hP2.cell 3; have f0 := hP2.free 0; have f1 := hP2.free 1; have f2 := hP2.free 2; have f3 := hP2.free 3
          simp only [List.getElem?_toArray, List.getElem?_cons_zero, List.getElem?_cons_succ] at c0 c1 c2 c3
          have HO5 : Hid (OwnE w1.heap.size ((((w2.setCell ⟨wr.heap.size, 0, none⟩ (.string p.m)).setCell ⟨wr.heap.size, 1, none⟩ (.int .i64 p.kd)).setCell ⟨wr.heap.size, 2, none⟩ (.bool p.x)).setCell ⟨wr.heap.size, 3, none⟩ (.string p.k)) (.slice va k vc) L) := Lib.hid ((((HO2.out.setNe (b := wr.heap.size) (i := 0) hown (.string p.m)).setNe (b := wr.heap.size) (i := 1) hown (.int .i64 p.kd)).setNe (b := wr.heap.size) (i := 2) hown (.bool p.x)).setNe (b := wr.heap.size) (i := 3) hown (.string p.k))
          have hX5 := ((((hX2.other ⟨wr.heap.size, 0, none⟩ (.string p.m) (show w.heap.size + 1 ≠ wr.heap.size by omega)).other ⟨wr.heap.size, 1, none⟩ (.int .i64 p.kd) (show w.heap.size + 1 ≠ wr.heap.size by omega)).other ⟨wr.heap.size, 2, none⟩ (.bool p.x) (show w.heap.size + 1 ≠ wr.heap.size by omega)).other ⟨wr.heap.size, 3, none⟩ (.string p.k) (show w.heap.size + 1 ≠ wr.heap.size by omega))
          have HR5 := Lib.hid ((((HR2.out.other ⟨wr.heap.size, 0, none⟩ (.string p.m) (show w.heap.size ≠ wr.heap.size by omega)).other ⟨wr.heap.size, 1, none⟩ (.int .i64 p.kd) (show w.heap.size ≠ wr.heap.size by omega)).other ⟨wr.heap.size, 2, none⟩ (.bool p.x) (show w.heap.size ≠ wr.heap.size by omega)).other ⟨wr.heap.size, 3, none⟩ (.string p.k) (show w.heap.size ≠ wr.heap.size by omega))
          have HB5 := Lib.hid ((((HB2.out.setCell (p := ⟨wr.heap.size, 0, none⟩) (by show w.heap.size ≤ wr.heap.size; omega) (.string p.m)).setCell (p := ⟨wr.heap.size, 1, none⟩) (by show w.heap.size ≤ wr.heap.size; omega) (.int .i64 p.kd)).setCell (p := ⟨wr.heap.size, 2, none⟩) (by show w.heap.size ≤ wr.heap.size; omega) (.bool p.x)).setCell (p := ⟨wr.heap.size, 3, none⟩) (by show w.heap.size ≤ wr.heap.size; omega) (.string p.k))
          have hP5 := row4_row hP2 (.string p.m) (.int .i64 p.kd) (.bool p.x) (.string p.k)
          have s0 := hX5.cell 0; have s1 := hX5.cell 1; have s2 := hX5.cell 2; have s3 := hX5.cell 3
          simp only [List.getElem?_toArray, List.getElem?_cons_zero, List.getElem?_cons_succ] at s0 s1 s2 s3
          have t0 := hP5.cell 0; have t1 := hP5.cell 1; have t2 := hP5.cell 2; have t3 := hP5.cell 3
          simp only [List.getElem?_toArray, List.getElem?_cons_zero, List.getElem?_cons_succ] at t0 t1 t2 t3
          have HX5 := Lib.hid hX5
          have hw5 : w1.heap.size ≤ ((((w2.setCell ⟨wr.heap.size, 0, none⟩ (.string p.m)).setCell ⟨wr.heap.size, 1, none⟩ (.int .i64 p.kd)).setCell ⟨wr.heap.size, 2, none⟩ (.bool p.x)).setCell ⟨wr.heap.size, 3, none⟩ (.string p.k)).heap.size := by simp [World.setCell]; omega
          have HZ5 : Hid (w2.heap.size = ((((w2.setCell ⟨wr.heap.size, 0, none⟩ (.string p.m)).setCell ⟨wr.heap.size, 1, none⟩ (.int .i64 p.kd)).setCell ⟨wr.heap.size, 2, none⟩ (.bool p.x)).setCell ⟨wr.heap.size, 3, none⟩ (.string p.k)).heap.size) := Lib.hid (by simp [World.setCell])
          have hLl : L.length ≤ 1000000 := by have := HLK.out; omega
          clear hX5 hP5 hX2 hP2
          go_wp2_with (at_builtin; refine wpList_append_entries2 (y := p) rfl _ _ rfl HO5.out hw5 HZ5.out rfl rfl hLl ?_)
          intro v' w6 hown6 hg6
          have hX6 := row_grownE HX5.out HO5.out hg6 (show w.heap.size + 1 < w1.heap.size by omega)
          have HR6 := Lib.hid (row_grownE HR5.out HO5.out hg6 (show w.heap.size < w1.heap.size by omega))
          have HB6 := Lib.hid (HB5.out.grown hg6 (by omega) (fun g hg => by have := (HO5.out.lt g hg).1; omega))
          have hsz6 := hg6.size
          obtain ⟨_, va2, vc2, hve, _, _⟩ := hown6.is
          subst hve
          have HO6 := Lib.hid (hown6.setBelow (a := ⟨w.heap.size + 1, 3, none⟩) (show w.heap.size + 1 < w1.heap.size by omega) (.slice va2 (L ++ [p]).length vc2))
          have z0 := hX6.cell 0; have z1 := hX6.cell 1; have z2 := hX6.cell 2; have z3 := hX6.cell 3
          have n0 := hX6.free 0; have n1 := hX6.free 1; have n2 := hX6.free 2; have n3 := hX6.free 3
          simp only [List.getElem?_toArray, List.getElem?_cons_zero, List.getElem?_cons_succ] at z0 z1 z2 z3
          have HX7 := Lib.hid (hX6.set 3 (.slice va2 (L ++ [p]).length vc2))
          have HR7 := Lib.hid (HR6.out.other ⟨w.heap.size + 1, 3, none⟩ (.slice va2 (L ++ [p]).length vc2) (show w.heap.size ≠ w.heap.size + 1 by omega))
          have HB7 := Lib.hid (HB6.out.setCell (p := ⟨w.heap.size + 1, 3, none⟩) (by simp) (.slice va2 (L ++ [p]).length vc2))
          have hlen : (L ++ [p]).length = k + 1 := by rw [List.length_append, HLK.out]; rfl
          obtain ⟨M, hM⟩ : ∃ M, M = L ++ [p] := ⟨_, rfl⟩
          rw [← hM] at HO6 HX7 HR7 HB7 hlen ⊢
          have HM := Lib.hid hM
          have HLE := Lib.hid hlen
          clear hX6 hown6 hg6 x0 x1 x2 x3 y0 y1 y2 y3 s0 s1 s2 s3 c0 f0 t0 c1 f1 t1 c2 f2 t2 c3 f3 t3 hM hlen hown
          go_wp2
          go_roundw
          case rel => exact ⟨k + 1, .slice va2 M.length vc2, M, ⟨R'.toArray⟩, qo, rfl, rfl, by go_num, hRz', HLE.out, by omega, by rw [HM.out]; exact HS.out, HX7.out, HR7.out, HO6.out, HB7.out, by simp [World.setCell] at hsz6 ⊢; omega⟩
          case measure => simp [intOf]; omega
        ·have qk : decide (k < c) = false := decide_eq_false hk
         have HE := Lib.hid (ge_end HG.out (fun _ => by omega) HKD.out)
         clear x0 x1 x2 x3
         obtain ⟨n, hn⟩ : ∃ n : Nd, n = ⟨(b.toNat : Int), ⟨#[]⟩, [], L⟩ := ⟨_, rfl⟩
         have hnkd : n.kd = b.toNat := by rw [hn]
         have hnd : n.d = ⟨#[]⟩ := by rw [hn]
         have HGN := Lib.hid (show GN S.data.toList n true from by rw [hn]; exact HE.out)
         have HOP : Hid (OwnP w1.heap.size wr (.slice none 0 0) n.ps) := Lib.hid (by rw [hn]; exact parts_own_nil _ _)
         have HOE : Hid (OwnE w1.heap.size wr (.slice va k vc) n.es) := Lib.hid (by rw [hn]; exact HO.out)
         have RF := Lib.hid (rFit_any n (.slice none 0 0) (.slice va k vc) (wr) HOP.out.is HOE.out.is)
         rw [show ndV n (.slice none 0 0) (.slice va k vc) = .agg #[.int .i64 (b.toNat), .string (⟨#[]⟩), .slice none 0 0, .slice va k vc] by unfold ndV; rw [hnkd, hnd]] at RF
         have x0 := HX.out.cell 0; have x1 := HX.out.cell 1; have x2 := HX.out.cell 2; have x3 := HX.out.cell 3
         simp only [List.getElem?_toArray, List.getElem?_cons_zero, List.getElem?_cons_succ] at x0 x1 x2 x3
         have HNK := Lib.hid hnkd; have HND := Lib.hid hnd
         rcases hf : fitN n with _ | _
         ·rw [hf] at RF
          have HRD := Lib.hid (rdd_unfit HGN.out hf)
          clear hf hn hnkd hnd
          go_wp2_with fail
          with_reducible refine RF.out.mono ?_
          rintro e w8 ⟨rfl, hb8⟩
          have HR9 := Lib.hid (HR.out.step hb8)
          have HB9 := Lib.hid (HB.out.trans (hb8.mono HB.out.size))
          clear x0 x1 x2 x3 hb8
          have p0 := HR9.out.cell 0; have p1 := HR9.out.cell 1; have p2 := HR9.out.cell 2; have p3 := HR9.out.cell 3
          have f0 := HR9.out.free 0; have f1 := HR9.out.free 1; have f2 := HR9.out.free 2; have f3 := HR9.out.free 3
          simp only [List.getElem?_toArray, List.getElem?_cons_zero, List.getElem?_cons_succ] at p0 p1 p2 p3
          go_wp2
          have hR4 := row4_row HR9.out (.int .i64 0) (.string ⟨#[]⟩) (.slice none 0 0) (.slice none 0 0)
          have d0 := hR4.cell 0; have d1 := hR4.cell 1; have d2 := hR4.cell 2; have d3 := hR4.cell 3
          simp only [List.getElem?_toArray, List.getElem?_cons_zero, List.getElem?_cons_succ] at d0 d1 d2 d3
          refine bodyPost_ret (v := .tuple #[.agg #[.int .i64 0, .string ⟨#[]⟩, .slice none 0 0, .slice none 0 0], .int .i64 2]) (by simp [results, Tryz.results24, go_sem, d0, d1, d2, d3]) rfl ?_
          exact ⟨zeroNd, 2, HRD.out, _, _, rfl, parts_nil _, entries_nil _, (((HB9.out.setCell (p := ⟨w.heap.size, 0, none⟩) HB0.out _).setCell (p := ⟨w.heap.size, 1, none⟩) HB0.out _).setCell (p := ⟨w.heap.size, 2, none⟩) HB0.out _).setCell (p := ⟨w.heap.size, 3, none⟩) HB0.out _⟩
         ·rw [hf] at RF
          have HFN := Lib.hid hf
          clear hf hn hnkd hnd
          go_wp2_with fail
          with_reducible refine RF.out.mono ?_
          rintro e w8 ⟨rfl, hb8⟩
          have HR8 := Lib.hid (HR.out.step hb8)
          have HX8 := Lib.hid (HX.out.step hb8)
          have HB8 := Lib.hid (HB.out.trans (hb8.mono HB.out.size))
          have HOP8 := Lib.hid (HOP.out.stays hb8); have HOE8 := Lib.hid (HOE.out.stays hb8)
          have RW := Lib.hid (rWriteF_any n (.slice none 0 0) (.slice va k vc) w8 HOP8.out.is HOE8.out.is HFN.out)
          rw [show ndV n (.slice none 0 0) (.slice va k vc) = .agg #[.int .i64 (b.toNat), .string (⟨#[]⟩), .slice none 0 0, .slice va k vc] by unfold ndV; rw [HNK.out, HND.out]] at RW
          rw [wrN_fit HFN.out] at RW
          clear x0 x1 x2 x3
          have x0 := HX8.out.cell 0; have x1 := HX8.out.cell 1; have x2 := HX8.out.cell 2; have x3 := HX8.out.cell 3
          simp only [List.getElem?_toArray, List.getElem?_cons_zero, List.getElem?_cons_succ] at x0 x1 x2 x3
          obtain ⟨Y, hY1, hY2⟩ := ex_str (wrL n)
          rw [← hY1] at RW
          by_cases hys : Y = S
          ·have y1 := beq_true hys
           have y2 : (!(Y.toList == S.toList)) = false := by rw [y1]; rfl
           have HRD : Hid (RdOk S.data.toList n 0) := Lib.hid (.inl ⟨rfl, HFN.out, by rw [← hY2, hys]⟩)
           clear hys hY1 hY2 hb8
           go_wp2_with fail
           with_reducible refine RW.out.mono ?_
           rintro e w9 ⟨rfl, hb9⟩
           have HR9 := Lib.hid (HR8.out.step hb9)
           have HX9 := HX8.out.step hb9
           have HB9 := Lib.hid (HB8.out.trans (hb9.mono HB8.out.size))
           have HOP9 := Lib.hid (HOP8.out.stays hb9); have HOE9 := Lib.hid (HOE8.out.stays hb9)
           clear x0 x1 x2 x3 hb9
           have x0 := HX9.cell 0; have x1 := HX9.cell 1; have x2 := HX9.cell 2; have x3 := HX9.cell 3
           have p0 := HR9.out.cell 0; have p1 := HR9.out.cell 1; have p2 := HR9.out.cell 2; have p3 := HR9.out.cell 3
           have f0 := HR9.out.free 0; have f1 := HR9.out.free 1; have f2 := HR9.out.free 2; have f3 := HR9.out.free 3
           simp only [List.getElem?_toArray, List.getElem?_cons_zero, List.getElem?_cons_succ] at p0 p1 p2 p3 x0 x1 x2 x3
           clear HX9
           go_wp2
           have hR4 := row4_row HR9.out (.int .i64 (b.toNat)) (.string (⟨#[]⟩)) (.slice none 0 0) (.slice va k vc)
           have d0 := hR4.cell 0; have d1 := hR4.cell 1; have d2 := hR4.cell 2; have d3 := hR4.cell 3
           simp only [List.getElem?_toArray, List.getElem?_cons_zero, List.getElem?_cons_succ] at d0 d1 d2 d3
           refine bodyPost_ret (v := .tuple #[.agg #[.int .i64 (b.toNat), .string (⟨#[]⟩), .slice none 0 0, .slice va k vc], .int .i64 0]) (by simp [results, Tryz.results24, go_sem, d0, d1, d2, d3]) rfl ?_
           refine ⟨n, 0, HRD.out, .slice none 0 0, .slice va k vc, by rw [show ndV n (.slice none 0 0) (.slice va k vc) = .agg #[.int .i64 (b.toNat), .string (⟨#[]⟩), .slice none 0 0, .slice va k vc] by unfold ndV; rw [HNK.out, HND.out]], ?_, ?_, (((HB9.out.setCell (p := ⟨w.heap.size, 0, none⟩) HB0.out _).setCell (p := ⟨w.heap.size, 1, none⟩) HB0.out _).setCell (p := ⟨w.heap.size, 2, none⟩) HB0.out _).setCell (p := ⟨w.heap.size, 3, none⟩) HB0.out _⟩
           ·exact ((((HOP9.out.setBelow (a := ⟨w.heap.size, 0, none⟩) HBS.out _).setBelow (a := ⟨w.heap.size, 1, none⟩) HBS.out _).setBelow (a := ⟨w.heap.size, 2, none⟩) HBS.out _).setBelow (a := ⟨w.heap.size, 3, none⟩) HBS.out _).is
           ·exact ((((HOE9.out.setBelow (a := ⟨w.heap.size, 0, none⟩) HBS.out _).setBelow (a := ⟨w.heap.size, 1, none⟩) HBS.out _).setBelow (a := ⟨w.heap.size, 2, none⟩) HBS.out _).setBelow (a := ⟨w.heap.size, 3, none⟩) HBS.out _).is
          ·have y1 := beq_false hys
           have y2 : (!(Y.toList == S.toList)) = true := by rw [y1]; rfl
           have HRD := Lib.hid (rdd_other HGN.out (fun e => hys (str_eq' (by rw [hY2]; exact e))))
           clear hys hY1 hY2 hb8
           go_wp2_with fail
           with_reducible refine RW.out.mono ?_
           rintro e w9 ⟨rfl, hb9⟩
           have HR9 := Lib.hid (HR8.out.step hb9)
           have HB9 := Lib.hid (HB8.out.trans (hb9.mono HB8.out.size))
           clear x0 x1 x2 x3 hb9
           have p0 := HR9.out.cell 0; have p1 := HR9.out.cell 1; have p2 := HR9.out.cell 2; have p3 := HR9.out.cell 3
           have f0 := HR9.out.free 0; have f1 := HR9.out.free 1; have f2 := HR9.out.free 2; have f3 := HR9.out.free 3
           simp only [List.getElem?_toArray, List.getElem?_cons_zero, List.getElem?_cons_succ] at p0 p1 p2 p3
           go_wp2
           have hR4 := row4_row HR9.out (.int .i64 0) (.string ⟨#[]⟩) (.slice none 0 0) (.slice none 0 0)
           have d0 := hR4.cell 0; have d1 := hR4.cell 1; have d2 := hR4.cell 2; have d3 := hR4.cell 3
           simp only [List.getElem?_toArray, List.getElem?_cons_zero, List.getElem?_cons_succ] at d0 d1 d2 d3
           refine bodyPost_ret (v := .tuple #[.agg #[.int .i64 0, .string ⟨#[]⟩, .slice none 0 0, .slice none 0 0], .int .i64 2]) (by simp [results, Tryz.results24, go_sem, d0, d1, d2, d3]) rfl ?_
           exact ⟨zeroNd, 2, HRD.out, _, _, rfl, parts_nil _, entries_nil _, (((HB9.out.setCell (p := ⟨w.heap.size, 0, none⟩) HB0.out _).setCell (p := ⟨w.heap.size, 1, none⟩) HB0.out _).setCell (p := ⟨w.heap.size, 2, none⟩) HB0.out _).setCell (p := ⟨w.heap.size, 3, none⟩) HB0.out _⟩
   ·have HRD : Hid (RdOk S.data.toList zeroNd 2) := Lib.hid (.inr ⟨rfl, rfl, fun m hm e => hx (HTK.out m hm (e.trans HL.out)).1⟩)
    have q4 : ((x : Int) != 0) = true := in_t (by omega)
    have HR9 := HRV; have HB9 := HBV
    clear hv hx h1 hRl HTK
    go_enter Tryz.func24, Tryz.ntmps24
    go_wp2_with fail
    rw [← HV.out]
    with_reducible refine (T.out _).mono ?_
    rintro e w1 ⟨rfl, hw1⟩
    subst hw1
    have p0 := HR9.out.cell 0; have p1 := HR9.out.cell 1; have p2 := HR9.out.cell 2; have p3 := HR9.out.cell 3
    have f0 := HR9.out.free 0; have f1 := HR9.out.free 1; have f2 := HR9.out.free 2; have f3 := HR9.out.free 3
    simp only [List.getElem?_toArray, List.getElem?_cons_zero, List.getElem?_cons_succ] at p0 p1 p2 p3
    go_wp2
    have hR4 := row4_row HR9.out (.int .i64 0) (.string ⟨#[]⟩) (.slice none 0 0) (.slice none 0 0)
    have d0 := hR4.cell 0; have d1 := hR4.cell 1; have d2 := hR4.cell 2; have d3 := hR4.cell 3
    simp only [List.getElem?_toArray, List.getElem?_cons_zero, List.getElem?_cons_succ] at d0 d1 d2 d3
    refine bodyPost_ret (v := .tuple #[.agg #[.int .i64 0, .string ⟨#[]⟩, .slice none 0 0, .slice none 0 0], .int .i64 2]) (by simp [results, Tryz.results24, go_sem, d0, d1, d2, d3]) rfl ?_
    exact ⟨zeroNd, 2, HRD.out, _, _, rfl, parts_nil _, entries_nil _, (((HB9.out.setCell (p := ⟨w.heap.size, 0, none⟩) HB0.out _).setCell (p := ⟨w.heap.size, 1, none⟩) HB0.out _).setCell (p := ⟨w.heap.size, 2, none⟩) HB0.out _).setCell (p := ⟨w.heap.size, 3, none⟩) HB0.out _⟩
end Go.Proofs.YtlccihidedfemaaGreatDoor

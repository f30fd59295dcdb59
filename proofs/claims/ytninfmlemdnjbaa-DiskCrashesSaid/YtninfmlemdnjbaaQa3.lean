/-
  Texts put together: contracts and laws that this seat's proofs share.
-/
import Derived.Test.YtninfmlemdnjbaaYaDlp
import Derived.RangeFuncFrom
import Derived.RangeFuncBox
import Derived.BigRegionIn
import Derived.Sort.CutIn
import Derived.OwnWalkIn
import Derived.Test.YtninfmlemdnjbaaQa0
import Derived.Maps.AppendAt
import Derived.Test.YtninfmlemdnjbaaQa1
set_option linter.unusedVariables false
namespace Go.Proofs.Ytninfmlemdnjbaa
open Go.RowKit Go.Sort
attribute [local go_sem] Oper.semAt_some
def SeqB {α : Type} (F : Fence) (n : Nat) (g : Nat) (lb : Array Value) (encs : α → Array Value) (E : List α) (Good : World → Prop) (w : World) : Prop :=
  ∀ (l : Nat) (J : Nat → World → Prop) (W : World), Below w.heap.size w W →
    (∀ k X, J k X → Good X) → (∀ k X Y, J k X → Below X.heap.size X Y → J k Y) →
    (∀ k (hk : k < E.length) X, J k X → YieldAt F (n - 1) Try.prog l (encs E[k]) X fun e Y => e = .returned (.bool true) ∧ J (k + 1) Y) →
    J 0 W → CallsIn F n Try.prog g (#[.func (.yield l) #[] #[]] ++ lb) W fun e Y => (∃ v, e = .returned v) ∧ J E.length Y
def KeptQ_Dlu (D L : Nat) (r : Loop) (W : World) : Prop := W.heap[D]? = some (.deferred (some [])) ∧ W.heap[L]? = some (.loop r)
theorem KeptQ_Dlu.put {D L : Nat} {r r' : Loop} {W : World} (h : KeptQ_Dlu D L r W) (hne : D ≠ L) : KeptQ_Dlu D L r' (W.putObj L (.loop r')) :=
  ⟨(World.putObj_heap_other hne).trans h.1, World.putObj_heap_same (Array.getElem?_eq_some_iff.1 h.2).1⟩
def KeepsLD_Dlu (W Y : World) : Prop := ∀ (k : Nat) (o : Obj), W.heap[k]? = some o → ((∃ l, o = .loop l) ∨ ∃ d, o = .deferred d) → Y.heap[k]? = some o
theorem KeepsLD_Dlu.of {W Y : World} (h : KeepsOthers W Y) : KeepsLD_Dlu W Y := fun k o hk ho => h.same k o hk (by rcases ho with ⟨l, rfl⟩ | ⟨d, rfl⟩ <;> rfl)
theorem KeepsLD_Dlu.trans {A B C : World} (h : KeepsLD_Dlu A B) (k : KeepsLD_Dlu B C) : KeepsLD_Dlu A C := fun i o hi ho => k i o (h i o hi ho) ho
theorem KeepsLD_Dlu.below {W Y : World} (h : Below W.heap.size W Y) : KeepsLD_Dlu W Y := fun i o hi _ => (h.block i (Array.getElem?_eq_some_iff.1 hi).1).trans hi
theorem row_put_Dlu {X : World} {b l : Nat} {xs : Array Value} {T : TypeId} {o o' : Loop} (h : Row X b xs T) (hl : X.heap[l]? = some (.loop o)) : Row (X.putObj l (.loop o')) b xs T := by
  unfold Row at h ⊢
  have hne : b ≠ l := fun e => by subst e; rw [h] at hl; cases hl
  exact (World.putObj_heap_other hne).trans h
theorem KeptQ_Dlu.others {D L : Nat} {r : Loop} {W W' : World} (h : KeptQ_Dlu D L r W) (hk : KeepsLD_Dlu W W') : KeptQ_Dlu D L r W' := ⟨hk _ _ h.1 (.inr ⟨_, rfl⟩), hk _ _ h.2 (.inl ⟨_, rfl⟩)⟩
theorem KeptQ_Dlu.below {D L : Nat} {r : Loop} {W W' : World} (h : KeptQ_Dlu D L r W) (hb : Below W.heap.size W W') : KeptQ_Dlu D L r W' :=
  ⟨(hb.block D (Array.getElem?_eq_some_iff.1 h.1).1).trans h.1, (hb.block L (Array.getElem?_eq_some_iff.1 h.2).1).trans h.2⟩
variable {F : Fence} {n : Nat} {α : Type}
theorem wpIn_rangeFunc_seqB {g : Operand} {ps : Array Tmp} {assign body : Code} {Q : Exit → Act → World → Prop} {a : Act} {w : World}
    (hro : F.round = none) (h1 : 1 ≤ n) {gf : Nat} {lb : Array Value} (hg : a.eval g = .func (.func gf) #[] lb) (hF : F.fn gf) (eg : ∀ args w, (callFunc gf args).run Try.prog w = .ok (.enter gf args) w)
    {encs : α → Array Value} {E : List α} {Good : World → Prop} {w0 : World} (hseq : SeqB F (n - 1) gf lb encs E Good w0) (hb0 : Below w0.heap.size w0 w) (hps : ∀ x, (encs x).size = ps.size)
    (I : Nat → World → Prop) (hgood : ∀ k X, I k X → Good X) (hI : ∀ k X Y, I k X → Below X.heap.size X Y → I k Y)
    (hIo : ∀ k X l o o', I k X → w.heap.size ≤ l → X.heap[l]? = some (.loop o) → I k (X.putObj l (.loop o')))
    (h0 : I 0 w) (a₁ : α → World → Act) (w₁ : α → World → World) (hw₁ : ∀ x W, Below W.heap.size W (w₁ x W))
    (hassign : ∀ (l : Nat) (x : α) (W : World) (K : Act → World → Prop), K (a₁ x W) (w₁ x W) →
      assign.wpIn (F.inRound l) (n - 1 - 1) Try.prog (Exit.then K (fun _ _ _ => False)) { tmps := (ps.zip (encs x)).foldl (fun t (p, v) => t.setIfInBounds p v) a.tmps, defers := [] } W)
    (hbody : ∀ (l : Nat) (k : Nat) (hk : k < E.length) (W X : World), I k X → (∀ b xs T, Row (w₁ E[k] W) b xs T → Row X b xs T) → body.wpIn (F.inRound l) (n - 1 - 1) Try.prog (fun e _ Y => e = .normal ∧ KeepsLD_Dlu X Y ∧ I (k + 1) Y) (a₁ E[k] W) X)
    (hdone : ∀ (D : Nat) (W : World), w.heap.size ≤ D → I E.length W → W.heap[D]? = some (.deferred (some [])) → Q .normal { a with defers := { target := .collected D, args := #[] } :: a.defers } W) :
    (Code.rangeFunc g ps assign body).wpIn F n Try.prog Q a w := by
  refine wpIn_rangeFunc fun fn hfn => ?_
  rw [hro]
  let D := w.heap.size
  let L := w.heap.size + 1
  let r0 : Loop := { state := .ready, pending := none, fn, tmps := a.tmps, params := ps, assign, body, defers := D }
  let W1 := (w.alloc (.deferred (some []))).alloc (.loop r0)
  have hDL : D ≠ L := by show w.heap.size ≠ w.heap.size + 1; omega
  have hD0 : w.heap.size ≤ D := Nat.le_refl _
  have hL0 : w.heap.size ≤ L := Nat.le_succ _
  have hb1 : Below w.heap.size w W1 := ((Below.refl _ w).alloc (Nat.le_refl _) _).alloc (by simp) _
  have hk1 : KeptQ_Dlu D L r0 W1 := by
    refine ⟨(Below.heap_alloc _ _ _ (by show D < _; simp [D])).trans (World.alloc_heap_new w _), ?_⟩
    have := World.alloc_heap_new (w.alloc (.deferred (some []))) (.loop r0)
    rwa [World.size_alloc] at this
  have hI1 : I 0 W1 := hI _ _ _ h0 hb1
  refine ⟨L, [{ target := .collected D, args := #[] }], W1, { target := .fn (.func gf) lb, args := #[.func (.yield L) #[] #[]] }, W1, gf, #[.func (.yield L) #[] #[]] ++ lb, W1,
    run_enterLoop_outer fn a.tmps ps assign body, ?_, ?_, by simp [invoke, go_sem, eg], fun _ => h1, ?_⟩
  · simp only [resolve, hg]; simp [go_sem]
  · intro f' hf'; simp [Target.leads] at hf'; subst hf'; exact hF
  · refine (hseq L (fun k W => I k W ∧ KeptQ_Dlu D L r0 W) W1 (below_step hb0 hb1) (fun k X h => hgood k X h.1) (fun k X Y h hb => ⟨hI k X Y h.1 hb, h.2.below hb⟩) ?_ ⟨hI1, hk1⟩).mono ?_
    · rintro k hkl W ⟨hi, hk⟩
      refine ⟨fn, _, assign, body, run_yield hk.2 (by rw [hps]), roundIn_of_wpIn hfn (hassign L _ W _ ⟨_, run_beginRound (hk.below (hw₁ _ W)).2 rfl, ?_⟩)⟩
      have hk' := hk.below (hw₁ E[k] W)
      have hi' := hI _ _ _ hi (hw₁ E[k] W)
      have hk2 : KeptQ_Dlu D L { r0 with state := .busy } ((w₁ E[k] W).putObj L (.loop { r0 with state := .busy })) := hk'.put hDL
      refine wpIn_mono (hbody L k hkl W _ (hIo _ _ _ _ _ hi' hL0 hk'.2) (fun b xs T hr => row_put_Dlu hr hk'.2)) ?_
      rintro e a3 W3 ⟨rfl, hko, hi3⟩
      have hk3 := hk2.others hko
      exact ⟨_, _, run_endRound none hk3.2, rfl, hIo _ _ _ _ _ hi3 hL0 hk3.2, hk3.put hDL⟩
    · rintro e W2 ⟨⟨v, rfl⟩, hi, hk⟩
      refine ⟨none, _, run_endLoop hk.2 (by simp [r0]), ?_⟩
      exact hdone D _ hD0 (hIo _ _ _ _ _ hi hL0 hk.2) ((World.putObj_heap_other hDL).trans hk.1)
structure Fop where
  place : Nat
  op : Dop
  file : Nat
def enumO (i : Nat) : Nat → List Dop → List Fop
  | _, [] => []
  | n, o :: P => ⟨n, o, i⟩ :: enumO i (n + 1) P
def enumF : Nat → Nat → List Dfl → List Fop
  | _, _, [] => []
  | i, n, f :: l => enumO i n f.ops ++ enumF (i + 1) (n + f.ops.length) l
theorem enumO_len (i : Nat) : ∀ (n : Nat) (P : List Dop), (enumO i n P).length = P.length
  | _, [] => rfl
  | n, o :: P => by show _ + 1 = _ + 1; rw [enumO_len i (n + 1) P]
theorem enumO_get (i : Nat) : ∀ (n : Nat) (P : List Dop) (j : Nat) (h : j < P.length), (enumO i n P)[j]? = some ⟨n + j, P[j], i⟩
  | _, [], _, h => absurd h (by simp)
  | n, o :: P, 0, _ => rfl
  | n, o :: P, j + 1, h => by
    have := enumO_get i (n + 1) P j (by simpa using h)
    show (enumO i (n + 1) P)[j]? = _
    rw [this, show n + 1 + j = n + (j + 1) by omega]; rfl
theorem opsL_cons (f : Dfl) (l : List Dfl) : opsL (f :: l) = f.ops.length + opsL l := by unfold opsL; rw [List.map_cons, List.sum_cons]
theorem enumF_len : ∀ (i n : Nat) (l : List Dfl), (enumF i n l).length = opsL l
  | _, _, [] => rfl
  | i, n, f :: l => by
    show (enumO i n f.ops ++ enumF (i + 1) (n + f.ops.length) l).length = _
    rw [List.length_append, enumO_len, enumF_len, opsL_cons]
theorem enumF_get : ∀ (i0 n : Nat) (l : List Dfl) (i j : Nat) (hi : i < l.length) (hj : j < l[i].ops.length), (enumF i0 n l)[opsL (l.take i) + j]? = some ⟨n + opsL (l.take i) + j, l[i].ops[j], i0 + i⟩
  | _, _, [], _, _, hi, _ => absurd hi (by simp)
  | i0, n, f :: l, 0, j, _, hj => by
    show (enumO i0 n f.ops ++ enumF (i0 + 1) (n + f.ops.length) l)[0 + j]? = _
    have hj' : j < f.ops.length := hj
    rw [Nat.zero_add, List.getElem?_append_left (by rw [enumO_len]; exact hj'), enumO_get i0 n f.ops j hj']; rfl
  | i0, n, f :: l, i + 1, j, hi, hj => by
    have ih := enumF_get (i0 + 1) (n + f.ops.length) l i j (by simpa using hi) hj
    show (enumO i0 n f.ops ++ enumF (i0 + 1) (n + f.ops.length) l)[opsL (f :: l.take i) + j]? = _
    rw [opsL_cons, List.getElem?_append_right (by rw [enumO_len]; omega), enumO_len, show f.ops.length + opsL (l.take i) + j - f.ops.length = opsL (l.take i) + j by omega, ih]
    show some _ = some (Fop.mk (n + opsL (f :: l.take i) + j) _ (i0 + (i + 1)))
    rw [opsL_cons]
    congr 2 <;> omega
abbrev fopV (x : Fop) : Value := .agg #[.int .i64 x.op.at_, .string x.op.d, .int .i64 x.file]
def encF (x : Fop) : Array Value := #[.int .i64 x.place, fopV x]
theorem opsL_step {l : List Dfl} {i : Nat} (h : i < l.length) : opsL (l.take (i + 1)) = opsL (l.take i) + l[i].ops.length := by
  unfold opsL
  rw [List.take_succ_eq_append_getElem h, List.map_append, List.sum_append]; simp
theorem opsL_le {l : List Dfl} (i : Nat) : opsL (l.take i) ≤ opsL l := by
  have : opsL l = opsL (l.take i) + opsL (l.drop i) := by
    conv => lhs; rw [← List.take_append_drop i l]
    unfold opsL; rw [List.map_append, List.sum_append]
  omega
abbrev opsV (n : Nat) : Value := .func (.func 69) #[] #[.pointer (some ⟨n, 0, none⟩)]
theorem ops_any (v : Value) (d : Dsk) (w : World) : Calls Try.prog 53 #[dskV v d] w fun e w' => e = .returned (opsV w.heap.size) ∧ w.alloc (.cells #[v, .bool d.off, .int .i64 d.fuse] 24) = w' := by
  unfold dskV
  go_enter Try.func53, Try.ntmps53
  go_wp2
  go_ret
  exact ⟨rfl, rfl⟩
set_option maxHeartbeats 8000000 in
set_option maxRecDepth 100000 in
theorem ops_seq (n : Nat) (hn : 1 ≤ n) (bd : Nat) (v0 : Value) (d : Dsk) (w : World) (hI : IsDfs w v0 d.fs) (hbd : Row w bd #[v0, .bool d.off, .int .i64 d.fuse] 24) (hl : d.fs.length ≤ 1000) (ho : opsL d.fs ≤ 1000000) (B0 : Nat) (W0 : World) (hI0 : IsDfs W0 v0 d.fs) :
    SeqB Fence.wide n 69 #[.pointer (some ⟨bd, 0, none⟩)] encF (enumF 0 0 d.fs) (fun X => Below W0.heap.size W0 X) w := fun l J W hW hG hB hY h0 => by
  have hro : Fence.wide.round = none := rfl
  have hbdW := hbd.step hW
  obtain ⟨_, a, cap, hu, _, _⟩ := id hI0
  obtain ⟨z, hz⟩ : ∃ z, z = d.fs.length := ⟨_, rfl⟩
  rw [← hz] at hu hl
  subst hu
  have HZ := Lib.hid hz
  have HI0 := Lib.hid hI0
  have c0 := hbdW.cell 0
  simp only [List.getElem?_toArray, List.getElem?_cons_zero] at c0
  have HGET : Hid (∀ i j (hi : i < d.fs.length) (hj : j < d.fs[i].ops.length), ∃ h : opsL (d.fs.take i) + j < (enumF 0 0 d.fs).length, (enumF 0 0 d.fs)[opsL (d.fs.take i) + j] = ⟨opsL (d.fs.take i) + j, d.fs[i].ops[j], i⟩) := Lib.hid fun i j hi hj => by
    have h := enumF_get 0 0 d.fs i j hi hj
    obtain ⟨h1, h2⟩ := List.getElem?_eq_some_iff.1 h
    exact ⟨h1, by rw [h2]; simp⟩
  have HLEN := Lib.hid (enumF_len 0 0 d.fs)
  refine callsIn_of_wp Try.func69 rfl trivial ?_ hro
  simp only [Try.ntmps69, List.size_toArray, List.length_cons, List.length_nil, Nat.reduceAdd, Nat.reduceSub, Array.replicate_succ, Array.replicate_zero, List.push_toArray, List.append_toArray, List.nil_append, List.cons_append]
  have HY := Lib.hid hY; have HG := Lib.hid hG; have HB := Lib.hid hB; have H0 := Lib.hid h0
  have hzz : z ≤ 9223372036854775807 := by omega
  clear hW hG hB hY h0 hI hI0 hbd hbdW hz
  gi_wp2
  gi_loopw [3, 11] (fun p i wr => ∃ k : Nat, k ≤ z ∧ i = .int .i64 k ∧ p = .int .i64 (opsL (d.fs.take k) : Nat) ∧ J (opsL (d.fs.take k)) wr) (fun _ i _ => z - (intOf i).toNat)
  case atStart => exact ⟨0, Nat.zero_le _, rfl, rfl, H0.out⟩
  case round =>
    obtain ⟨k, hk, rfl, rfl, hJ⟩ := hrel
    clear H0 c0
    have HJ := Lib.hid hJ
    have hB := HG.out _ _ hJ
    by_cases hlt : k < z
    · have hko : k < d.fs.length := by have := HZ.out; omega
      obtain ⟨_, _, _, hev, _, hc⟩ := HI0.out
      rw [← HZ.out] at hev
      cases hev
      obtain ⟨b1, o1, rfl, hbl, g1⟩ := hc (by omega)
      obtain ⟨u, q0, q1, q2, hu⟩ := g1 k hko
      have HOPS := Lib.hid hu
      rw [← hB.cell (p := ⟨b1, o1 + k * 3, none⟩) hbl] at q0
      rw [← hB.cell (p := ⟨b1, o1 + k * 3 + 1, none⟩) hbl] at q1
      rw [← hB.cell (p := ⟨b1, o1 + k * 3 + 2, none⟩) hbl] at q2
      have HST := Lib.hid (opsL_step hko)
      have hG2 := HGET.out k
      have hops : opsL (d.fs.take k) + (d.fs[k]'hko).ops.length ≤ 1000000 := by
        have h1 := HST.out; have h2 := opsL_le (l := d.fs) (k + 1)
        omega
      obtain ⟨f, hf⟩ : ∃ f, f = d.fs[k]'hko := ⟨_, rfl⟩
      have HGK : Hid (∀ j (hj : j < f.ops.length), ∃ h : opsL (d.fs.take k) + j < (enumF 0 0 d.fs).length, (enumF 0 0 d.fs)[opsL (d.fs.take k) + j] = ⟨opsL (d.fs.take k) + j, f.ops[j], k⟩) := Lib.hid (by rw [hf]; exact fun j hj => hG2 j hko hj)
      rw [← hf] at q0 q1 HOPS HST hops
      obtain ⟨_, a2, cap2, hu2, _, _⟩ := hu
      rw [← hf] at hu2
      obtain ⟨m, hm⟩ : ∃ m, m = f.ops.length := ⟨_, rfl⟩
      rw [← hm] at hu2 HST hops
      have HMM := Lib.hid hm
      obtain ⟨t, ht⟩ : ∃ t, t = opsL (d.fs.take k) := ⟨_, rfl⟩
      rw [← ht] at HJ HST hops HGK ⊢
      have HTT := Lib.hid ht
      subst hu2
      have hbk : decide ((k : Int) < (z : Int)) = true := by simpa using (show (k : Int) < z by omega)
      have HJA := Lib.hid (HB.out _ _ (wr.alloc (.cells #[.string f.n, .string f.d, .slice a2 m cap2] 47)) HJ.out ((RowKit.Below.refl _ _).alloc (Nat.le_refl _) _))
      clear g1 hc hJ hB hf hm ht hG2
      gi_wp2
      gi_loopw [3, 19] (fun p j wr2 => ∃ q : Nat, q ≤ m ∧ j = .int .i64 q ∧ p = .int .i64 ((t + q : Nat) : Int) ∧ J (t + q) wr2) (fun _ j _ => m - (intOf j).toNat)
      case atStart => exact ⟨0, Nat.zero_le _, rfl, rfl, HJA.out⟩
      case round =>
        obtain ⟨q, hq, rfl, rfl, hJ2⟩ := hrel
        clear HJA HJ q0 q1 q2
        have HJ2 := Lib.hid hJ2
        have hB2 := HG.out _ _ hJ2
        by_cases hq2 : q < m
        · have hqo : q < f.ops.length := by have := HMM.out; omega
          obtain ⟨_, _, _, hev2, _, hc2⟩ := HOPS.out.stays hB2
          rw [← HMM.out] at hev2
          cases hev2
          obtain ⟨b2, o2, rfl, hbl2, g2⟩ := hc2 (by have := HMM.out; omega)
          obtain ⟨e0, e1⟩ := g2 q hqo
          obtain ⟨hlt2, hget⟩ := HGK.out q hqo
          obtain ⟨o, hoo⟩ : ∃ o, o = f.ops[q]'hqo := ⟨_, rfl⟩
          rw [← hoo] at e0 e1 hget
          have hJ3 := HB.out _ _ (wr.alloc (.cells #[.int .i64 o.at_, .string o.d] 52)) hJ2 ((RowKit.Below.refl _ _).alloc (Nat.le_refl _) _)
          have hy0 := HY.out (t + q) hlt2 _ hJ3
          rw [hget] at hy0
          unfold encF fopV at hy0
          dsimp only at hy0
          obtain ⟨s, hs⟩ : ∃ s, s = t + q := ⟨_, rfl⟩
          rw [← hs] at hy0 ⊢
          have HYY := Lib.hid hy0
          have HSS := Lib.hid hs
          have hbq : decide ((q : Int) < (m : Int)) = true := by simpa using (show (q : Int) < m by omega)
          have hadd : IntKind.i64.wrap ((s : Int) + 1) = (s : Int) + 1 := IntWalk.i64_in _ (by omega)
          clear g2 hc2 hoo hJ2 hB2 hy0 hget hJ3 hs
          obtain ⟨fn, tmps, assign, body, hy, hRd⟩ := HYY.out
          gi_wp2
          refine hRd.mono ?_
          rintro e W3 ⟨rfl, hJ4⟩
          have HJ4 := Lib.hid hJ4
          clear hJ4 hy hRd e0 e1
          gi_wp2
          refine ⟨⟨q + 1, by omega, by go_num, by rw [show t + (q + 1) = s + 1 by have := HSS.out; omega]; rfl, by rw [show t + (q + 1) = s + 1 by have := HSS.out; omega]; exact HJ4.out⟩, ?_⟩
          simp [intOf]; omega
        · obtain rfl : q = m := by omega
          have hbq : decide ((q : Int) < (q : Int)) = false := by simp
          clear hJ2 hB2
          gi_wp2
          refine ⟨⟨k + 1, by omega, by go_num, by rw [HST.out], by rw [HST.out]; exact HJ2.out⟩, ?_⟩
          simp [intOf]; omega
    · obtain rfl : k = z := by omega
      have hbk : decide ((k : Int) < (k : Int)) = false := by simp
      have hall : d.fs.take k = d.fs := List.take_of_length_le (by have := HZ.out; omega)
      rw [hall] at HJ
      rw [← HLEN.out] at HJ
      clear hJ hB hall
      gi_wp2
      go_end0
      exact ⟨⟨_, rfl⟩, HJ.out⟩
end Go.Proofs.Ytninfmlemdnjbaa
set_option linter.unusedVariables false
namespace Go.Proofs.Ytninfmlemdnjbaa
open Go.RowKit
def clearF (x : Dfl) : Dfl := ⟨x.n, x.d, []⟩
def stepK (keep : List Bool) (fs : List Dfl) (x : Fop) : List Dfl :=
  if keep.getD x.place false then (match fs[x.file]? with | some f => fs.set x.file ⟨f.n, f.d, f.ops ++ [x.op]⟩ | none => fs) else fs
def keptO (keep : List Bool) : Nat → List Dop → List Dop
  | _, [] => []
  | n, o :: P => if keep.getD n false then o :: keptO keep (n + 1) P else keptO keep (n + 1) P
def keptL (keep : List Bool) : Nat → List Dfl → List Dfl
  | _, [] => []
  | n, f :: l => ⟨f.n, f.d, keptO keep n f.ops⟩ :: keptL keep (n + f.ops.length) l
def settleF (x : Dfl) : Dfl := ⟨x.n, strT (seenF x), []⟩
theorem keptT_keptO (keep : List Bool) : ∀ (P : List Dop) (n : Nat) (s : Txt), keptT keep n s P = seenT s (keptO keep n P)
  | [], _, _ => rfl
  | o :: P, n, s => by
    unfold keptT keptO
    by_cases h : keep.getD n false = true
    · rw [if_pos h, if_pos h, keptT_keptO keep P]; rfl
    · rw [if_neg h, if_neg h, keptT_keptO keep P]
theorem crashL_kept (keep : List Bool) : ∀ (l : List Dfl) (n : Nat), crashL keep n l = (keptL keep n l).map settleF
  | [], _ => rfl
  | f :: l, n => by
    unfold crashL keptL
    rw [List.map_cons, crashL_kept keep l]
    congr 1
    unfold settleF seenF
    rw [keptT_keptO]
theorem keptL_len (keep : List Bool) : ∀ (l : List Dfl) (n : Nat), (keptL keep n l).length = l.length
  | [], _ => rfl
  | f :: l, n => by unfold keptL; rw [List.length_cons, List.length_cons, keptL_len keep l]
theorem keptO_sub (keep : List Bool) : ∀ (P : List Dop) (n : Nat), ∀ o ∈ keptO keep n P, o ∈ P
  | [], _, _, h => by cases h
  | p :: P, n, o, h => by
    unfold keptO at h
    split at h
    · rcases List.mem_cons.1 h with rfl | h
      · exact List.mem_cons_self ..
      · exact List.mem_cons_of_mem _ (keptO_sub keep P _ o h)
    · exact List.mem_cons_of_mem _ (keptO_sub keep P _ o h)
theorem keptL_mem (keep : List Bool) : ∀ (l : List Dfl) (n : Nat), ∀ x ∈ keptL keep n l, ∃ f ∈ l, x.n = f.n ∧ x.d = f.d ∧ ∀ o ∈ x.ops, o ∈ f.ops
  | [], _, _, h => by cases h
  | f :: l, n, x, h => by
    unfold keptL at h
    rcases List.mem_cons.1 h with rfl | h
    · exact ⟨f, List.mem_cons_self .., rfl, rfl, keptO_sub keep f.ops n⟩
    · obtain ⟨g, hg, h1⟩ := keptL_mem keep l _ x h
      exact ⟨g, List.mem_cons_of_mem _ hg, h1⟩
theorem fold_one (keep : List Bool) (i : Nat) (A C : List Dfl) (hA : A.length = i) (m d : ByteArray) : ∀ (P : List Dop) (n : Nat) (Q : List Dop),
    (enumO i n P).foldl (stepK keep) (A ++ ⟨m, d, Q⟩ :: C) = A ++ ⟨m, d, Q ++ keptO keep n P⟩ :: C
  | [], n, Q => by show _ = A ++ ⟨m, d, Q ++ []⟩ :: C; rw [List.append_nil]; rfl
  | o :: P, n, Q => by
    show (enumO i (n + 1) P).foldl (stepK keep) (stepK keep (A ++ ⟨m, d, Q⟩ :: C) ⟨n, o, i⟩) = _
    have hget : (A ++ (⟨m, d, Q⟩ : Dfl) :: C)[i]? = some ⟨m, d, Q⟩ := by rw [← hA, List.getElem?_append_right (Nat.le_refl _), Nat.sub_self]; rfl
    unfold keptO
    by_cases h : keep.getD n false = true
    · have e : stepK keep (A ++ ⟨m, d, Q⟩ :: C) ⟨n, o, i⟩ = A ++ ⟨m, d, Q ++ [o]⟩ :: C := by
        unfold stepK
        dsimp only
        rw [if_pos h, hget]
        dsimp only
        rw [← hA, List.set_append_right _ _ (Nat.le_refl _), Nat.sub_self]; rfl
      rw [e, fold_one keep i A C hA m d P (n + 1) (Q ++ [o]), if_pos h, List.append_assoc]; rfl
    · have e : stepK keep (A ++ ⟨m, d, Q⟩ :: C) ⟨n, o, i⟩ = A ++ ⟨m, d, Q⟩ :: C := by unfold stepK; dsimp only; rw [if_neg h]
      rw [e, fold_one keep i A C hA m d P (n + 1) Q, if_neg h]
theorem fold_all (keep : List Bool) : ∀ (l : List Dfl) (i n : Nat) (A : List Dfl) (hA : A.length = i),
    (enumF i n l).foldl (stepK keep) (A ++ l.map clearF) = A ++ keptL keep n l
  | [], _, _, A, _ => by show A ++ [] = A ++ []; rfl
  | f :: l, i, n, A, hA => by
    show (enumO i n f.ops ++ enumF (i + 1) (n + f.ops.length) l).foldl (stepK keep) (A ++ ⟨f.n, f.d, []⟩ :: l.map clearF) = _
    rw [List.foldl_append, fold_one keep i A _ hA, List.nil_append]
    have := fold_all keep l (i + 1) (n + f.ops.length) (A ++ [⟨f.n, f.d, keptO keep n f.ops⟩]) (by rw [List.length_append, hA]; rfl)
    rw [List.append_assoc, List.append_assoc] at this
    exact this
def fsK (keep : List Bool) (fs : List Dfl) (q : Nat) : List Dfl := ((enumF 0 0 fs).take q).foldl (stepK keep) (fs.map clearF)
theorem fsK_zero (keep : List Bool) (fs : List Dfl) : fsK keep fs 0 = fs.map clearF := rfl
theorem fsK_all (keep : List Bool) (fs : List Dfl) : fsK keep fs (enumF 0 0 fs).length = keptL keep 0 fs := by
  unfold fsK
  rw [List.take_length]
  exact fold_all keep fs 0 0 [] rfl
theorem fsK_step (keep : List Bool) (fs : List Dfl) {q : Nat} (h : q < (enumF 0 0 fs).length) : fsK keep fs (q + 1) = stepK keep (fsK keep fs q) (enumF 0 0 fs)[q] := by
  unfold fsK
  rw [List.take_succ_eq_append_getElem h, List.foldl_append]; rfl
theorem stepK_len (keep : List Bool) (fs : List Dfl) (x : Fop) : (stepK keep fs x).length = fs.length := by
  unfold stepK
  split
  · split
    · rw [List.length_set]
    · rfl
  · rfl
theorem fsK_len (keep : List Bool) (fs : List Dfl) : ∀ q, q ≤ (enumF 0 0 fs).length → (fsK keep fs q).length = fs.length
  | 0, _ => by rw [fsK_zero, List.length_map]
  | q + 1, h => by rw [fsK_step keep fs (by omega), stepK_len, fsK_len keep fs q (by omega)]
theorem stepK_ops (keep : List Bool) (fs : List Dfl) (x : Fop) (m : Nat) (h : ∀ f ∈ fs, f.ops.length ≤ m) : ∀ f ∈ stepK keep fs x, f.ops.length ≤ m + 1 := by
  intro f hf
  unfold stepK at hf
  split at hf
  · split at hf
    · rename_i g hg
      rcases List.mem_or_eq_of_mem_set hf with hf | rfl
      · have := h f hf; omega
      · have := h g (List.mem_of_getElem? hg)
        show (g.ops ++ [x.op]).length ≤ m + 1
        rw [List.length_append, List.length_singleton]; omega
    · have := h f hf; omega
  · have := h f hf; omega
theorem fsK_ops (keep : List Bool) (fs : List Dfl) : ∀ q, q ≤ (enumF 0 0 fs).length → ∀ f ∈ fsK keep fs q, f.ops.length ≤ q
  | 0, _, f, hf => by
    rw [fsK_zero] at hf
    obtain ⟨g, _, rfl⟩ := List.mem_map.1 hf
    exact Nat.le_refl _
  | q + 1, h, f, hf => by
    rw [fsK_step keep fs (by omega)] at hf
    exact stepK_ops keep _ _ q (fsK_ops keep fs q (by omega)) f hf
theorem enumO_file (i : Nat) : ∀ (n : Nat) (P : List Dop), ∀ x ∈ enumO i n P, x.file = i
  | _, [], _, h => by cases h
  | n, o :: P, x, h => by
    rcases List.mem_cons.1 h with rfl | h
    · rfl
    · exact enumO_file i (n + 1) P x h
theorem enumF_file : ∀ (l : List Dfl) (i n : Nat), ∀ x ∈ enumF i n l, x.file < i + l.length
  | [], _, _, _, h => by cases h
  | f :: l, i, n, x, h => by
    rcases List.mem_append.1 h with h | h
    · rw [enumO_file i n f.ops x h, List.length_cons]; omega
    · have := enumF_file l (i + 1) _ x h
      rw [List.length_cons]; omega
theorem enumO_place (i : Nat) : ∀ (n : Nat) (P : List Dop) (q : Nat) (h : q < (enumO i n P).length), ((enumO i n P)[q]).place = n + q
  | _, [], _, h => absurd h (by simp [enumO])
  | n, o :: P, 0, _ => rfl
  | n, o :: P, q + 1, h => by
    have := enumO_place i (n + 1) P q (by simpa [enumO] using h)
    show ((enumO i (n + 1) P)[q]'(by simpa [enumO] using h)).place = _
    rw [this]; omega
theorem enumF_place : ∀ (l : List Dfl) (i n q : Nat) (h : q < (enumF i n l).length), ((enumF i n l)[q]).place = n + q
  | [], _, _, _, h => absurd h (by simp [enumF])
  | f :: l, i, n, q, h => by
    have hl : (enumF i n (f :: l)).length = f.ops.length + (enumF (i + 1) (n + f.ops.length) l).length := by
      show (enumO i n f.ops ++ _).length = _; rw [List.length_append, enumO_len]
    have h' : q < (enumO i n f.ops ++ enumF (i + 1) (n + f.ops.length) l).length := h
    show ((enumO i n f.ops ++ enumF (i + 1) (n + f.ops.length) l)[q]'h').place = _
    by_cases hq : q < (enumO i n f.ops).length
    · rw [List.getElem_append_left hq]; exact enumO_place i n f.ops q hq
    · rw [List.getElem_append_right (by omega), enumF_place l]
      rw [enumO_len] at hq ⊢; omega
section
variable {B kb k : Nat} {w : World} {v : Value} {R : List Dfr} {d : Dsk}
theorem Mch.put_ops (hrow : Row w kb #[v, .bool d.off, .int .i64 d.fuse] 57) (hown : OwnD B w v R) (hlen : R.length = d.fs.length) (hrows : ∀ j (h1 : j < R.length) (h2 : j < d.fs.length), R[j].n = d.fs[j].n ∧ R[j].d = d.fs[j].d ∧ (j ≠ k → RowP B w R[j] d.fs[j])) (hB : B ≤ kb) (hsep : R.Pairwise SepR)
    (hk : k < d.fs.length) {a : Option Addr} {z c : Nat} {P : List Dop} (ho : OwnP15 B w (.slice a z c) P) (hnew : ∀ j (hj : j < R.length), j ≠ k → ∀ g, (Value.slice a z c).ownBlock = some g → obk R[j] ≠ some g) :
    ∃ g cap, v = .slice (some ⟨g, 0, none⟩) d.fs.length cap ∧ d.fs.length ≤ cap ∧ cap ≤ maxLen ∧ B ≤ g ∧ g < w.heap.size ∧ w.frozen? ⟨g, k * 3 + 2, none⟩ = false ∧ (∃ u, w.cell? ⟨g, k * 3 + 2, none⟩ = some u) ∧
      ∃ R', Mch B kb (w.setCell ⟨g, k * 3 + 2, none⟩ (.slice a z c)) v R' ⟨d.fs.set k ⟨(d.fs[k]).n, (d.fs[k]).d, P⟩, d.off, d.fuse⟩ := by
  have hkR : k < R.length := by rw [hlen]; exact hk
  rcases hown.2 with ⟨_, h0⟩ | ⟨g, cap, cur, rfl, hbg, hg, hle, hm, _⟩
  · rw [h0] at hkR; exact absurd hkR (by simp)
  obtain ⟨o1, o2, o3, o4⟩ := ownD_ops hown hkR a z c
  have hgr : w.grownBy (w.setCell ⟨g, k * 3 + 2, none⟩ (.slice a z c)) (some g) := grownBy_set_Dlh w g _ _
  have hrw : ∀ g', some g = some g' → ∃ xs T, Row w g' xs T ∧ T ≠ 52 := fun g' e => by cases e; exact ⟨_, _, hg, by decide⟩
  refine ⟨g, cap, by rw [hlen], by rw [← hlen]; exact hle, hm, hbg, (Array.getElem?_eq_some_iff.1 hg).1, o3, ⟨_, o2⟩, _, ⟨hrow.other ⟨g, k * 3 + 2, none⟩ _ (fun e => ?_), o1, rows_of_get (by rw [List.length_set, List.length_set]; exact hlen) fun j h1 h2 => ?_, hB, ?_⟩⟩
  · have h1 := hrow
    unfold Row at h1
    have e' : kb = g := e
    rw [e', hg] at h1; cases h1
  · rw [List.length_set] at h1 h2
    obtain ⟨g1, g2, g3⟩ := hrows j h1 h2
    rw [List.getElem_set, List.getElem_set]
    by_cases e : k = j
    · subst e
      rw [if_pos rfl, if_pos rfl]
      exact ⟨g1, g2, ho.turn hgr hrw⟩
    · rw [if_neg e, if_neg e]
      exact (g3 (fun c => e c.symm)).turn hgr hrw
  · refine List.pairwise_iff_getElem.2 fun i j h1 h2 hij => ?_
    rw [List.length_set] at h1 h2
    rw [List.getElem_set, List.getElem_set]
    by_cases e1 : k = i
    · rw [if_pos e1, if_neg (by omega)]
      exact hnew j h2 (by omega)
    · rw [if_neg e1]
      by_cases e2 : k = j
      · rw [if_pos e2]
        exact SepR.symm (hnew i h1 (by omega))
      · rw [if_neg e2]
        exact List.pairwise_iff_getElem.1 hsep i j h1 h2 hij
theorem dfrCells_set3 : ∀ {R : List Dfr} {i : Nat} (hi : i < R.length) (r : Dfr), dfrCells (R.set i r) = (((dfrCells R).set (i * 3) (.string r.n)).set (i * 3 + 1) (.string r.d)).set (i * 3 + 2) (.slice r.a r.z r.c)
  | [], i, hi, _ => absurd hi (by simp)
  | x :: R, 0, hi, r => rfl
  | x :: R, i + 1, hi, r => by
    have hi' : i < R.length := by simpa using hi
    have ih := dfrCells_set3 (R := R) (i := i) hi' r
    show dfrC x ++ dfrCells (R.set i r) = (((dfrC x ++ dfrCells R).set _ _).set _ _).set _ _
    rw [ih, List.set_append_right _ _ (by simp; omega), List.set_append_right _ _ (by simp; omega), List.set_append_right _ _ (by simp; omega)]
    have e1 : (i + 1) * 3 - (dfrC x).length = i * 3 := by show (i + 1) * 3 - 3 = _; omega
    have e2 : (i + 1) * 3 + 1 - (dfrC x).length = i * 3 + 1 := by show (i + 1) * 3 + 1 - 3 = _; omega
    have e3 : (i + 1) * 3 + 2 - (dfrC x).length = i * 3 + 2 := by show (i + 1) * 3 + 2 - 3 = _; omega
    rw [e1, e2, e3]
theorem Mch.put_file (h : Mch B kb w v R d) (hk : k < d.fs.length) (n dd : ByteArray) :
    ∃ g cap, v = .slice (some ⟨g, 0, none⟩) d.fs.length cap ∧ d.fs.length ≤ cap ∧ cap ≤ maxLen ∧ B ≤ g ∧ g < w.heap.size ∧ (∀ i, w.frozen? ⟨g, i, none⟩ = false) ∧ (∃ u1 u2 u3, w.cell? ⟨g, k * 3, none⟩ = some u1 ∧ w.cell? ⟨g, k * 3 + 1, none⟩ = some u2 ∧ w.cell? ⟨g, k * 3 + 2, none⟩ = some u3) ∧
      ∃ R', Mch B kb (((w.setCell ⟨g, k * 3, none⟩ (.string n)).setCell ⟨g, k * 3 + 1, none⟩ (.string dd)).setCell ⟨g, k * 3 + 2, none⟩ (.slice none 0 0)) v R' ⟨d.fs.set k ⟨n, dd, []⟩, d.off, d.fuse⟩ := by
  have hlen := h.rows.len
  have hkR : k < R.length := by rw [hlen]; exact hk
  have hc := h.own.rws
  rcases h.own.2 with ⟨_, h0⟩ | ⟨g, cap, cur, rfl, hbg, hg, hle, hm, hcs, ht⟩
  · rw [h0] at hkR; exact absurd hkR (by simp)
  obtain ⟨_, a1, c1, e1, _, hc1⟩ := hc
  cases e1
  obtain ⟨b2, o2, e2, _, g2⟩ := hc1 (by omega)
  cases e2
  obtain ⟨q0, q1, q2⟩ := g2 k hkR
  rw [Nat.zero_add] at q0 q1 q2
  have hrow : Row w g cur 47 := hg
  have hg1 := grownBy_set_Dlh w g (k * 3) (.string n)
  have hg2 := grownBy_set_Dlh (w.setCell ⟨g, k * 3, none⟩ (.string n)) g (k * 3 + 1) (.string dd)
  have hg3 := grownBy_set_Dlh ((w.setCell ⟨g, k * 3, none⟩ (.string n)).setCell ⟨g, k * 3 + 1, none⟩ (.string dd)) g (k * 3 + 2) (.slice none 0 0)
  have hgr := grown_trans_Dld (grown_trans_Dld hg1 hg2) hg3
  have hrw : ∀ g', some g = some g' → ∃ xs T, Row w g' xs T ∧ T ≠ 52 := fun g' e => by cases e; exact ⟨_, _, hg, by decide⟩
  have hnk : kb ≠ g := fun e => by
    have h1 := h.row
    unfold Row at h1
    rw [e, hg] at h1; cases h1
  refine ⟨g, cap, by rw [hlen], by rw [← hlen]; exact hle, hm, hbg, (Array.getElem?_eq_some_iff.1 hg).1, fun i => hrow.free i, ⟨_, _, _, q0, q1, q2⟩, R.set k ⟨n, dd, none, 0, 0⟩, ⟨((h.row.other ⟨g, k * 3, none⟩ _ hnk).other ⟨g, k * 3 + 1, none⟩ _ hnk).other ⟨g, k * 3 + 2, none⟩ _ hnk, ?_, rows_of_get (by rw [List.length_set, List.length_set]; exact hlen) fun j h1 h2 => ?_, h.from_, ?_⟩⟩
  · refine ⟨by rw [dfrCells_len], .inr ⟨g, cap, _, by rw [List.length_set], hbg, ((hrow.set (k * 3) (.string n)).set (k * 3 + 1) (.string dd)).set (k * 3 + 2) (.slice none 0 0), by rw [List.length_set]; exact hle, hm, by simpa using hcs, ?_⟩⟩
    rw [List.length_set, dfrCells_set3 hkR, ← ht]
    simp only [Array.toList_setIfInBounds, List.take_set]
  · rw [List.length_set] at h1 h2
    rw [List.getElem_set, List.getElem_set]
    by_cases e : k = j
    · subst e
      rw [if_pos rfl, if_pos rfl]
      exact RowP.nil _ _ _ _
    · rw [if_neg e, if_neg e]
      exact (h.rows.get j h1 h2).turn hgr hrw
  · refine List.pairwise_iff_getElem.2 fun i j h1 h2 hij => ?_
    rw [List.length_set] at h1 h2
    rw [List.getElem_set, List.getElem_set]
    by_cases e1 : k = i
    · rw [if_pos e1]; exact fun g e => by cases e
    · rw [if_neg e1]
      by_cases e2 : k = j
      · rw [if_pos e2]; exact fun g _ e => by cases e
      · rw [if_neg e2]; exact List.pairwise_iff_getElem.1 h.sep i j h1 h2 hij
end
end Go.Proofs.Ytninfmlemdnjbaa
set_option linter.unusedVariables false
namespace Go.Proofs.Ytninfmlemdnjbaa
open Go.RowKit Go.Sort
structure CrI (V : World) (kb pb kp rb db : Nat) (dv kv v : Value) (d : Dsk) (fs : List Dfl) (W : World) : Prop where
  mch : ∃ R, Mch V.heap.size kb W v R ⟨fs, d.off, d.fuse⟩
  pt : Row W pb #[.pointer (some ⟨kb, 0, none⟩)] 62
  keep : Row W kp #[kv] 40
  res : Row W rb #[.slice none 0 0, .bool false, .int .i64 0] 24
  dbox : Row W db #[dv, .bool d.off, .int .i64 d.fuse] 24
  below : Below V.heap.size V W
section
variable {V W W' : World} {kb pb kp rb db : Nat} {dv kv v : Value} {d : Dsk} {fs : List Dfl}
theorem CrI.stays (h : CrI V kb pb kp rb db dv kv v d fs W) (hb : Below W.heap.size W W') : CrI V kb pb kp rb db dv kv v d fs W' := by
  obtain ⟨R, hR⟩ := h.mch
  exact ⟨⟨R, hR.stays hb⟩, h.pt.step hb, h.keep.step hb, h.res.step hb, h.dbox.step hb, below_step h.below hb⟩
theorem row_put {X : World} {b l : Nat} {xs : Array Value} {T : TypeId} {o o' : Loop} (h : Row X b xs T) (hl : X.heap[l]? = some (.loop o)) : Row (X.putObj l (.loop o')) b xs T := by
  unfold Row at h ⊢
  have hne : b ≠ l := fun e => by subst e; rw [h] at hl; cases hl
  exact (World.putObj_heap_other hne).trans h
theorem own_put {X : World} {B l : Nat} {e : TypeId} {size n : Nat} {v : Value} {xs : List Value} {o o' : Loop} (h : X.ownsRow B e size v n xs) (hl : X.heap[l]? = some (.loop o)) : (X.putObj l (.loop o')).ownsRow B e size v n xs :=
  ownsRow_putObj h (.loop o') hl rfl
theorem CrI.put {l : Nat} {o o' : Loop} (h : CrI V kb pb kp rb db dv kv v d fs W) (hl : W.heap[l]? = some (.loop o)) (hV : V.heap.size ≤ l) : CrI V kb pb kp rb db dv kv v d fs (W.putObj l (.loop o')) := by
  obtain ⟨R, hR⟩ := h.mch
  exact ⟨⟨R, row_put hR.row hl, own_put hR.own hl, hR.rows.imp fun r x hx => ⟨hx.1, hx.2.1, own_put hx.2.2 hl⟩, hR.from_, hR.sep⟩, row_put h.pt hl, row_put h.keep hl, row_put h.res hl, row_put h.dbox hl,
    h.below.grown (grownBy_putObj' W l (.loop o')) h.below.size (fun k e => by cases e; exact hV)⟩
end
theorem clear_step {fs : List Dfl} {k : Nat} (h : k < fs.length) : ((fs.take k).map clearF ++ fs.drop k).set k (clearF fs[k]) = (fs.take (k + 1)).map clearF ++ fs.drop (k + 1) := by
  have hl : ((fs.take k).map clearF).length = k := by rw [List.length_map, List.length_take]; omega
  rw [List.set_append_right _ _ (by omega), hl, Nat.sub_self, ← List.getElem_cons_drop h, List.take_succ_eq_append_getElem h, List.map_append, List.append_assoc]
  rfl
theorem settle_step {fs : List Dfl} {k : Nat} (h : k < fs.length) : ((fs.take k).map settleF ++ fs.drop k).set k (settleF fs[k]) = (fs.take (k + 1)).map settleF ++ fs.drop (k + 1) := by
  have hl : ((fs.take k).map settleF).length = k := by rw [List.length_map, List.length_take]; omega
  rw [List.set_append_right _ _ (by omega), hl, Nat.sub_self, ← List.getElem_cons_drop h, List.take_succ_eq_append_getElem h, List.map_append, List.append_assoc]
  rfl
theorem half_get {α : Type} (f : α → α) {fs : List α} {k : Nat} (h : k < fs.length) : ∃ h' : k < ((fs.take k).map f ++ fs.drop k).length, ((fs.take k).map f ++ fs.drop k)[k] = fs[k] := by
  have hl : ((fs.take k).map f).length = k := by rw [List.length_map, List.length_take]; omega
  refine ⟨by rw [List.length_append, hl, List.length_drop]; omega, ?_⟩
  rw [List.getElem_append_right (by omega), List.getElem_drop]
  congr 1; omega
theorem half_len {α : Type} (f : α → α) {fs : List α} {k : Nat} (h : k ≤ fs.length) : ((fs.take k).map f ++ fs.drop k).length = fs.length := by
  rw [List.length_append, List.length_map, List.length_take, List.length_drop]; omega
section
variable {V W : World} {kb pb kp rb db q : Nat} {dv kv v : Value} {d : Dsk} {fs : List Dfl}
theorem CrI.file (h : CrI V kb pb kp rb db dv kv v d fs W) (hq : q < fs.length) (n dd : ByteArray) : ∃ g cap, v = .slice (some ⟨g, 0, none⟩) fs.length cap ∧ (∀ i, W.frozen? ⟨g, i, none⟩ = false) ∧ (∃ u1 u2 u3, W.cell? ⟨g, q * 3, none⟩ = some u1 ∧ W.cell? ⟨g, q * 3 + 1, none⟩ = some u2 ∧ W.cell? ⟨g, q * 3 + 2, none⟩ = some u3) ∧
    CrI V kb pb kp rb db dv kv v d (fs.set q ⟨n, dd, []⟩) (((W.setCell ⟨g, q * 3, none⟩ (.string n)).setCell ⟨g, q * 3 + 1, none⟩ (.string dd)).setCell ⟨g, q * 3 + 2, none⟩ (.slice none 0 0)) ∧
    KeepsLD_Dlu W (((W.setCell ⟨g, q * 3, none⟩ (.string n)).setCell ⟨g, q * 3 + 1, none⟩ (.string dd)).setCell ⟨g, q * 3 + 2, none⟩ (.slice none 0 0)) := by
  obtain ⟨R, hM⟩ := h.mch
  obtain ⟨g, cap, e1, e2, e3, e4, e5, e6, e7, R2, hM2⟩ := hM.put_file (k := q) hq n dd
  obtain ⟨xs, hg⟩ := hM.own.row (show v.ownBlock = some g by rw [e1]; rfl)
  have hne : ∀ {b : Nat} {xs : Array Value} {T : TypeId}, Row W b xs T → T ≠ 47 → b ≠ g := fun {b xs T} h1 h2 e => by
    subst e
    unfold Row at h1 hg
    rw [hg] at h1; cases h1; exact h2 rfl
  have hf : ∀ {b : Nat} {xs : Array Value} {T : TypeId}, Row W b xs T → T ≠ 47 → Row (((W.setCell ⟨g, q * 3, none⟩ (.string n)).setCell ⟨g, q * 3 + 1, none⟩ (.string dd)).setCell ⟨g, q * 3 + 2, none⟩ (.slice none 0 0)) b xs T := fun h1 h2 =>
    ((h1.other ⟨g, _, none⟩ _ (hne h1 h2)).other ⟨g, _, none⟩ _ (hne h1 h2)).other ⟨g, _, none⟩ _ (hne h1 h2)
  refine ⟨g, cap, e1, e6, e7, ⟨⟨R2, hM2⟩, hf h.pt (by decide), hf h.keep (by decide), hf h.res (by decide), hf h.dbox (by decide), ((h.below.setCell (p := ⟨g, q * 3, none⟩) e4 _).setCell (p := ⟨g, q * 3 + 1, none⟩) e4 _).setCell (p := ⟨g, q * 3 + 2, none⟩) e4 _⟩, fun k o hk ho => ?_⟩
  have hkg : k ≠ g := fun e => by
    subst e
    unfold Row at hg
    rw [hg] at hk
    rcases ho with ⟨l, rfl⟩ | ⟨l, rfl⟩ <;> cases hk
  rw [Below.heap_setCell _ _ _ k hkg, Below.heap_setCell _ _ _ k hkg, Below.heap_setCell _ _ _ k hkg]; exact hk
end
structure AppS (V X : World) (kb pb kp rb db : Nat) (dv kv v : Value) (d : Dsk) (fs : List Dfl) (fi : Nat) (R : List Dfr) (P : List Dop) (u : Value) (W : World) : Prop where
  row : Row W kb #[v, .bool d.off, .int .i64 d.fuse] 57
  own : OwnD V.heap.size W v R
  len : R.length = fs.length
  rows : ∀ j (h1 : j < R.length) (h2 : j < fs.length), R[j].n = fs[j].n ∧ R[j].d = fs[j].d ∧ (j ≠ fi → RowP V.heap.size W R[j] fs[j])
  from_ : V.heap.size ≤ kb
  sep : R.Pairwise SepR
  new : OwnP15 V.heap.size W u P
  apart : ∀ j (hj : j < R.length), j ≠ fi → ∀ g, u.ownBlock = some g → obk R[j] ≠ some g
  pt : Row W pb #[.pointer (some ⟨kb, 0, none⟩)] 62
  keep : Row W kp #[kv] 40
  res : Row W rb #[.slice none 0 0, .bool false, .int .i64 0] 24
  dbox : Row W db #[dv, .bool d.off, .int .i64 d.fuse] 24
  below : Below V.heap.size V W
  ld : KeepsLD_Dlu X W
section
variable {V X W W' : World} {kb pb kp rb db fi : Nat} {dv kv v u : Value} {d : Dsk} {fs : List Dfl} {R : List Dfr} {P : List Dop}
theorem AppS.stays (h : AppS V X kb pb kp rb db dv kv v d fs fi R P u W) (hb : Below W.heap.size W W') : AppS V X kb pb kp rb db dv kv v d fs fi R P u W' :=
  ⟨h.row.step hb, h.own.stays hb, h.len, fun j h1 h2 => ⟨(h.rows j h1 h2).1, (h.rows j h1 h2).2.1, fun hj => ((h.rows j h1 h2).2.2 hj).stays hb⟩, h.from_, h.sep, h.new.stays hb, h.apart, h.pt.step hb, h.keep.step hb, h.res.step hb, h.dbox.step hb, below_step h.below hb, h.ld.trans (KeepsLD_Dlu.below hb)⟩
theorem AppS.put {a : Option Addr} {z c : Nat} (h : AppS V X kb pb kp rb db dv kv v d fs fi R P (.slice a z c) W) (hfi : fi < fs.length) : ∃ g cap, v = .slice (some ⟨g, 0, none⟩) fs.length cap ∧ W.frozen? ⟨g, fi * 3 + 2, none⟩ = false ∧ (∃ u, W.cell? ⟨g, fi * 3 + 2, none⟩ = some u) ∧
    CrI V kb pb kp rb db dv kv v d (fs.set fi ⟨fs[fi].n, fs[fi].d, P⟩) (W.setCell ⟨g, fi * 3 + 2, none⟩ (.slice a z c)) ∧ KeepsLD_Dlu X (W.setCell ⟨g, fi * 3 + 2, none⟩ (.slice a z c)) := by
  obtain ⟨g, cap, e1, e2, e3, e4, e5, e6, e7, R2, hM2⟩ := Mch.put_ops (k := fi) (d := ⟨fs, d.off, d.fuse⟩) h.row h.own h.len h.rows h.from_ h.sep hfi h.new h.apart
  obtain ⟨xs, hg⟩ := h.own.row (show v.ownBlock = some g by rw [e1]; rfl)
  have hne : ∀ {b : Nat} {xs : Array Value} {T : TypeId}, Row W b xs T → T ≠ 47 → b ≠ g := fun {b xs T} h1 h2 e => by
    subst e
    unfold Row at h1 hg
    rw [hg] at h1; cases h1; exact h2 rfl
  refine ⟨g, cap, e1, e6, e7, ⟨⟨R2, hM2⟩, h.pt.other ⟨g, _, none⟩ _ (hne h.pt (by decide)), h.keep.other ⟨g, _, none⟩ _ (hne h.keep (by decide)), h.res.other ⟨g, _, none⟩ _ (hne h.res (by decide)), h.dbox.other ⟨g, _, none⟩ _ (hne h.dbox (by decide)), h.below.setCell (p := ⟨g, fi * 3 + 2, none⟩) e4 _⟩, h.ld.trans fun k o hk ho => ?_⟩
  have hkg : k ≠ g := fun e => by
    subst e
    unfold Row at hg
    rw [hg] at hk
    rcases ho with ⟨l, rfl⟩ | ⟨l, rfl⟩ <;> cases hk
  rw [Below.heap_setCell _ _ _ k hkg]; exact hk
theorem app_any {X1 : World} (h : CrI V kb pb kp rb db dv kv v d fs X) {R : List Dfr} (hM : Mch V.heap.size kb X v R ⟨fs, d.off, d.fuse⟩) (hfi : fi < fs.length) (hfR : fi < R.length) (hb : Below X.heap.size X X1) {A : Nat} {o : Dop} (hA : Row X1 A #[.int .i64 o.at_, .string o.d] 52) (hAX : X.heap.size ≤ A) (hl : fs[fi].ops.length ≤ 1000000) (ty : TypeId) :
    ∃ a z c w', (Builtin.append_ #[45, 45] ty #[.slice R[fi].a R[fi].z R[fi].c, .slice (some ⟨A, 0, none⟩) 1 1]).run Try.prog X1 = .ok (.slice a z c) w' ∧ AppS V X kb pb kp rb db dv kv v d fs fi R (fs[fi].ops ++ [o]) (.slice a z c) w' := by
  have hI1 := h.stays hb
  have hM1 := hM.stays hb
  have hP := hM1.rows.get fi hfR hfi
  have hBX : V.heap.size ≤ X1.heap.size := hI1.below.size
  obtain ⟨i0, hi, hz0, hz1, hz2⟩ := info_parts infoOp
  obtain ⟨v', w', hr, ho', hg, _, hat⟩ := run_append_own_at (P := Try.prog) X1 V.heap.size 45 ty 52 i0 (dopV zeroDop) 2 24 Try.underlying45 hi hz0 hz1 hz2 rfl (by decide) (.slice R[fi].a R[fi].z R[fi].c) fs[fi].ops.length (dopCells fs[fi].ops) hP.2.2 ⟨A, 0, none⟩ 1 1 (dopC o) rfl (fun j u hj => by
      have c0 := hA.cell 0; have c1 := hA.cell 1
      simp only [List.getElem?_toArray, List.getElem?_cons_zero, List.getElem?_cons_succ] at c0 c1
      rw [add_plain', Nat.zero_add]
      match j, hj with
      | 0, hj => simp at hj; subst hj; exact c0
      | 1, hj => simp at hj; subst hj; exact c1) (fun u hu => by simp at hu; rcases hu with rfl | rfl <;> rfl) (by unfold maxLen; omega) (by omega) hBX
  have hown : OwnP15 V.heap.size w' v' (fs[fi].ops ++ [o]) := by
    unfold OwnP15
    rw [List.length_append, dopCells_app]
    have : dopCells [o] = dopC o := List.append_nil _
    rw [this]; exact ho'
  obtain ⟨a, c, rfl⟩ := hown.is.len
  have hfar : ∀ {b : Nat} {xs : Array Value} {T : TypeId}, Row X1 b xs T → T ≠ 52 → Row w' b xs T := fun {b xs T} h1 h2 => by
    unfold Row
    rw [hg.block b h1.lt (fun e => hP.2.2.apart h1 h2 e.symm)]; exact h1
  refine ⟨a, _, c, w', hr, hfar hM1.row (by decide), World.ownsRow.kept hM1.own hg (by
      cases hv : v.ownBlock with
      | none => exact .inl rfl
      | some g =>
        refine .inr fun e => ?_
        obtain ⟨xs, hx⟩ := hM1.own.row hv
        exact hP.2.2.apart hx (by decide) e.symm), hM1.rows.len, fun j h1 h2 => ⟨(hM1.rows.get j h1 h2).1, (hM1.rows.get j h1 h2).2.1, fun hj => ⟨(hM1.rows.get j h1 h2).1, (hM1.rows.get j h1 h2).2.1, (hM1.rows.get j h1 h2).2.2.grown hg (by
      cases hv : (Value.slice R[j].a R[j].z R[j].c).ownBlock with
      | none => exact .inl rfl
      | some g =>
        refine .inr fun e => ?_
        rcases Nat.lt_or_gt_of_ne hj with hlt | hgt
        · exact List.pairwise_iff_getElem.1 hM.sep j fi h1 hfR hlt g hv e.symm
        · exact List.pairwise_iff_getElem.1 hM.sep fi j hfR h1 hgt g e.symm hv)⟩⟩, hM.from_, hM.sep, hown, fun j hj hne g e1 e2 => ?_, hfar hI1.pt (by decide), hfar hI1.keep (by decide), hfar hI1.res (by decide), hfar hI1.dbox (by decide), hI1.below.grown hg hBX (fun g e => (World.ownsRow.lt hP.2.2 g e).1), (KeepsLD_Dlu.below hb).trans fun k o' hk ho => ?_⟩
  · rcases hat with hat | hat
    · rw [hat] at e1
      rcases Nat.lt_or_gt_of_ne hne with hlt | hgt
      · exact List.pairwise_iff_getElem.1 hM.sep j fi hj hfR hlt g e2 e1
      · exact List.pairwise_iff_getElem.1 hM.sep fi j hfR hj hgt g e1 e2
    · rw [hat] at e1
      have hgX : g = X1.heap.size := (Option.some.inj e1).symm
      have := (World.ownsRow.lt (hM1.rows.get j hj (by have h0 : R.length = fs.length := hM1.rows.len; show j < fs.length; omega)).2.2 g e2).2
      omega
  · refine (hg.block k (Array.getElem?_eq_some_iff.1 hk).1 (fun e => ?_)).trans hk
    obtain ⟨xs, hx⟩ := hP.2.2.row e.symm
    unfold Row at hx
    rw [hx] at hk
    rcases ho with ⟨l, rfl⟩ | ⟨l, rfl⟩ <;> cases hk
end
end Go.Proofs.Ytninfmlemdnjbaa
set_option linter.unusedVariables false
namespace Go.Proofs.Ytninfmlemdnjbaa
open Go.RowKit Go.Shelf
attribute [local go_sem] Oper.semAt_some
def dkwriU (w0 w1 V U : World) (kb : Nat) (res : Dsk × Int) (d : Dsk) (n : ByteArray) (x : Int) (s : ByteArray) : Nat → Value → Value → World → Prop
  | 0 => fun v _ _ => v = .pointer (some ⟨kb, 0, none⟩)
  | 1 => fun v _ _ => v = .pointer (some ⟨kb, 0, none⟩)
  | 2 => fun v _ _ => v = .string n
  | 3 => fun v _ _ => v = .int .i64 x
  | 4 => fun v _ _ => v = .string s
  | 5 => fun v _ _ => v = .int .i64 (wrongW d n x s)
  | 6 => fun v _ _ => v = .func (.func 38) #[] #[.pointer (some ⟨w1.heap.size, 0, none⟩), .pointer (some ⟨w0.heap.size + 1, 0, none⟩), .pointer (some ⟨w0.heap.size + 2, 0, none⟩), .pointer (some ⟨w0.heap.size + 3, 0, none⟩)]
  | 7 => fun v _ wz => v = .int .i64 res.2 ∧ ActP res V kb w1.heap.size (w0.heap.size + 4) wz
  | 8 => fun v _ wz => v = .int .i64 res.2 ∧ ActP res V kb w1.heap.size (w0.heap.size + 4) wz
  | 9 => fun _ _ wz => Below U.heap.size U wz
  | _ => fun _ _ _ => True
def dkwriN : List (List Nat) := [[9], [9], [9], [9], [9], [1, 2, 3, 4, 9], [], [0, 5, 6, 9], [7]]
def dkwriE : Nat → Option Tmp
  | _ => none
def dkwriB : List (Nat × Nat) := [(7, 8), (7, 9)]
theorem dkwri_T (w0 w1 V U : World) (kb : Nat) (res : Dsk × Int) (d : Dsk) (n : ByteArray) (x : Int) (s : ByteArray) (ix kx : Nat) (v e : Value) (w w' : World) (hk : kx < 10) (hne : kx ≠ ix) (hbd : (ix, kx) ∉ dkwriB) (hU : (dkwriU w0 w1 V U kb res d n x s) kx v e w) (hT : (appT 7 (fun _ _ => True)) ix w w') : (dkwriU w0 w1 V U kb res d n x s) kx v e w' := by
  by_cases hi7 : ix = 7
  · subst hi7
    have hR := appT_in hT
    rcases (show kx = 0 ∨ kx = 1 ∨ kx = 2 ∨ kx = 3 ∨ kx = 4 ∨ kx = 5 ∨ kx = 6 ∨ kx = 7 ∨ kx = 8 ∨ kx = 9 by omega) with rfl | rfl | rfl | rfl | rfl | rfl | rfl | rfl | rfl | rfl
    iterate 7 exact hU
    · exact absurd rfl hne
    · exact absurd (by decide) hbd
    · exact absurd (by decide) hbd
  have hb : Below w.heap.size w w' := appT_out hi7 hT
  rcases (show kx = 0 ∨ kx = 1 ∨ kx = 2 ∨ kx = 3 ∨ kx = 4 ∨ kx = 5 ∨ kx = 6 ∨ kx = 7 ∨ kx = 8 ∨ kx = 9 by omega) with rfl | rfl | rfl | rfl | rfl | rfl | rfl | rfl | rfl | rfl
  iterate 7 exact hU
  · exact ⟨hU.1, ActP.stays hU.2 hb⟩
  · exact ⟨hU.1, ActP.stays hU.2 hb⟩
  · exact below_step hU hb
set_option maxRecDepth 100000 in
set_option maxHeartbeats 8000000 in
theorem pWrite_any (d : Dsk) (v0 : Value) (n : ByteArray) (x : Int) (s : ByteArray) (w0 : World) (h : IsDfs w0 v0 d.fs) (hf : FitD nameB d) (hns : n.size ≤ 1000000) (hx : x ≤ 9223372036854775807) (hss : s.size ≤ 1000000) :
    Calls Try.prog 17 #[dskV v0 d, .string n, .int .i64 x, .string s] w0 (RetD (writeD nameB d n x s) w0) := by
  have hr := hf.rise; have hl8 := hf.many
  have ho : ∀ f ∈ d.fs, f.ops.length ≤ 1000 := fun f hm => Nat.le_trans (hf.files f hm).many (by decide)
  obtain ⟨_, a, cap, hu, _, _⟩ := id h
  obtain ⟨z, hz⟩ : ∃ z, z = d.fs.length := ⟨_, rfl⟩
  rw [← hz] at hu
  subst hu
  obtain ⟨V, hV⟩ : ∃ V, V = (((((w0.alloc (.cells #[.slice a z cap, .bool d.off, .int .i64 d.fuse] 24)).alloc (.cells #[.string n] 9)).alloc (.cells #[.int .i64 x] 3)).alloc (.cells #[.string s] 9)).alloc (.cells #[.slice none 0 0, .bool false, .int .i64 0] 24)) := ⟨_, rfl⟩
  have hbV : Below w0.heap.size w0 V := by rw [hV]; exact (((((Below.refl _ _).alloc (by simp) _).alloc (by simp) _).alloc (by simp; try omega) _).alloc (by simp; try omega) _).alloc (by simp; try omega) _
  have hB0 : Row V (w0.heap.size) #[.slice a z cap, .bool d.off, .int .i64 d.fuse] 24 := by
    have h0 := Row.made w0 #[.slice a z cap, .bool d.off, .int .i64 d.fuse] 24
    have hs : w0.heap.size = w0.heap.size := by simp
    rw [hs] at h0
    rw [hV]; exact ((((h0).alloc _).alloc _).alloc _).alloc _
  have hB1 : Row V (w0.heap.size + 1) #[.string n] 9 := by
    have h0 := Row.made (w0.alloc (.cells #[.slice a z cap, .bool d.off, .int .i64 d.fuse] 24)) #[.string n] 9
    have hs : (w0.alloc (.cells #[.slice a z cap, .bool d.off, .int .i64 d.fuse] 24)).heap.size = w0.heap.size + 1 := by simp
    rw [hs] at h0
    rw [hV]; exact (((h0).alloc _).alloc _).alloc _
  have hB2 : Row V (w0.heap.size + 2) #[.int .i64 x] 3 := by
    have h0 := Row.made ((w0.alloc (.cells #[.slice a z cap, .bool d.off, .int .i64 d.fuse] 24)).alloc (.cells #[.string n] 9)) #[.int .i64 x] 3
    have hs : ((w0.alloc (.cells #[.slice a z cap, .bool d.off, .int .i64 d.fuse] 24)).alloc (.cells #[.string n] 9)).heap.size = w0.heap.size + 2 := by simp
    rw [hs] at h0
    rw [hV]; exact ((h0).alloc _).alloc _
  have hB3 : Row V (w0.heap.size + 3) #[.string s] 9 := by
    have h0 := Row.made (((w0.alloc (.cells #[.slice a z cap, .bool d.off, .int .i64 d.fuse] 24)).alloc (.cells #[.string n] 9)).alloc (.cells #[.int .i64 x] 3)) #[.string s] 9
    have hs : (((w0.alloc (.cells #[.slice a z cap, .bool d.off, .int .i64 d.fuse] 24)).alloc (.cells #[.string n] 9)).alloc (.cells #[.int .i64 x] 3)).heap.size = w0.heap.size + 3 := by simp
    rw [hs] at h0
    rw [hV]; exact (h0).alloc _
  have hB4 : Row V (w0.heap.size + 4) #[.slice none 0 0, .bool false, .int .i64 0] 24 := by
    have h0 := Row.made ((((w0.alloc (.cells #[.slice a z cap, .bool d.off, .int .i64 d.fuse] 24)).alloc (.cells #[.string n] 9)).alloc (.cells #[.int .i64 x] 3)).alloc (.cells #[.string s] 9)) #[.slice none 0 0, .bool false, .int .i64 0] 24
    have hs : ((((w0.alloc (.cells #[.slice a z cap, .bool d.off, .int .i64 d.fuse] 24)).alloc (.cells #[.string n] 9)).alloc (.cells #[.int .i64 x] 3)).alloc (.cells #[.string s] 9)).heap.size = w0.heap.size + 4 := by simp
    rw [hs] at h0
    rw [hV]; exact h0
  have CM := Lib.hid (newMachine_any d (.slice a z cap) V (h.stays hbV) (by omega) ho)
  have HV := Lib.hid hV; have HBV := Lib.hid hbV; have HF := Lib.hid hf
  have HB0 := Lib.hid hB0
  have HB1 := Lib.hid hB1
  have HB2 := Lib.hid hB2
  have HB3 := Lib.hid hB3
  have HB4 := Lib.hid hB4
  have HDO := Lib.hid ho
  obtain ⟨c0, c1, c2⟩ : V.cell? ⟨w0.heap.size, 0, none⟩ = some (.slice a z cap) ∧ V.cell? ⟨w0.heap.size, 1, none⟩ = some (.bool d.off) ∧ V.cell? ⟨w0.heap.size, 2, none⟩ = some (.int .i64 d.fuse) := by
    have p0 := hB0.cell 0; have p1 := hB0.cell 1; have p2 := hB0.cell 2
    simp only [List.getElem?_toArray, List.getElem?_cons_zero, List.getElem?_cons_succ] at p0 p1 p2
    exact ⟨p0, p1, p2⟩
  have HSP := Lib.hid (writeD_act d n x s)
  clear hV hbV h hz ho hf hB0 hB1 hB2 hB3 hB4
  unfold dskV
  go_enter Try.func17, Try.ntmps17
  go_wp2_with fail
  rw [← HV.out]
  go_wp2_with fail
  refine CM.out.mono ?_
  rintro e w1 ⟨kb, v, R, rfl, hM, hb1⟩
  obtain ⟨U, hU⟩ : ∃ U, U = w1.alloc (.cells #[.pointer (some ⟨kb, 0, none⟩)] 62) := ⟨_, rfl⟩
  have hbU : Below w1.heap.size w1 U := by rw [hU]; exact (Below.refl _ _).alloc (Nat.le_refl _) _
  have hPB : Row U w1.heap.size #[.pointer (some ⟨kb, 0, none⟩)] 62 := by rw [hU]; exact Row.made _ _ _
  have hbVU := below_step hb1 hbU
  have HM := Lib.hid (hM.stays hbU); have HPB := Lib.hid hPB; have HU := Lib.hid hU; have HBU := Lib.hid hbVU
  have HU1 := Lib.hid (HB1.out.step hbVU)
  have HU2 := Lib.hid (HB2.out.step hbVU)
  have HU3 := Lib.hid (HB3.out.step hbVU)
  have HU4 := Lib.hid (HB4.out.step hbVU)
  have hVU : V.heap.size ≤ U.heap.size := hbVU.size
  obtain ⟨u1, _⟩ := row_one HU1.out
  obtain ⟨u2, _⟩ := row_one HU2.out
  obtain ⟨u3, _⟩ := row_one HU3.out
  obtain ⟨q0, _⟩ := row_one hPB
  have CW : Hid (∀ W, Below U.heap.size U W → Calls Try.prog 37 #[.pointer (some ⟨kb, 0, none⟩), .string n, .int .i64 x, .string s] W fun e w' => e = .returned (.int .i64 (wrongW d n x s)) ∧ Below W.heap.size W w') := Lib.hid fun W hW => by
    refine (wrongWrite_any n x s W (HM.out.stays hW) hr (by omega) hx (by omega)).mono ?_
    rintro e w' ⟨rfl, hb⟩
    exact ⟨rfl, hb⟩
  have CA : Hid (∀ W, Below U.heap.size U W → Calls Try.prog 36 #[.pointer (some ⟨kb, 0, none⟩), .int .i64 (wrongW d n x s), .func (.func 38) #[] #[.pointer (some ⟨w1.heap.size, 0, none⟩), .pointer (some ⟨w0.heap.size + 1, 0, none⟩), .pointer (some ⟨w0.heap.size + 2, 0, none⟩), .pointer (some ⟨w0.heap.size + 3, 0, none⟩)]] W fun e w' => ∃ v2 R2, e = .returned (.int .i64 (actD d (wrongW d n x s) (withF d.fs (wroteF d n x s))).2) ∧ Mch V.heap.size kb w' v2 R2 (actD d (wrongW d n x s) (withF d.fs (wroteF d n x s))).1 ∧ Below V.heap.size V w' ∧ Row w' w1.heap.size #[.pointer (some ⟨kb, 0, none⟩)] 62 ∧ Row w' (w0.heap.size + 4) #[.slice none 0 0, .bool false, .int .i64 0] 24) := Lib.hid fun W hW => by
    have hVW : V.heap.size ≤ W.heap.size := Nat.le_trans hVU hW.size
    refine (act_any V.heap.size kb v R d (wrongW d n x s) 38 _ (withF d.fs (wroteF d n x s)) (enters_of Try.func38 (by kernel_rfl) rfl) W (HM.out.stays hW) hVW HF.out.lo HF.out.hi ?_).mono ?_
    · intro hw hoff W2 f2 hk hB2 hM2
      have hkk := fun {b : Nat} {xs : Array Value} {Ty : TypeId} (g1 : Ty ≠ 57) (g2 : Ty ≠ 47) (g3 : Ty ≠ 52) (g : Row U b xs Ty) => hk b xs Ty g1 g2 g3 (g.step hW)
      exact write1_any (d := ⟨d.fs, false, f2⟩) W2 (hkk (by decide) (by decide) (by decide) HPB.out) (hkk (by decide) (by decide) (by decide) HU1.out) (hkk (by decide) (by decide) (by decide) HU2.out) (hkk (by decide) (by decide) (by decide) HU3.out) hM2 hB2 hr (by show d.fs.length ≤ 1000; omega) (by omega) (by omega) HDO.out (wroteF_t HF.out n x s)
    · rintro e w' ⟨v2, R2, rfl, g1, g2, g3⟩
      exact ⟨v2, R2, rfl, g1, HBU.out.trans ((hW.mono hVU).trans g2), g3 _ _ _ (by decide) (by decide) (by decide) (HPB.out.step hW), g3 _ _ _ (by decide) (by decide) (by decide) (HU4.out.step hW)⟩
  rw [← HSP.out] at CA
  obtain ⟨res, hres⟩ : ∃ r, r = writeD nameB d n x s := ⟨_, rfl⟩
  rw [← hres] at CA
  have HRES := Lib.hid hres
  clear c0 c1 c2 hM hb1 hbU hPB hU hbVU hres HSP
  go_wp2_with fail
  rw [← HU.out]
  go_wp2_with fail
  clear q0 u1 u2 u3
  refine wp_region_wordsG (by kernel_rfl) (by kernel_rfl) (appT 7 (fun _ _ => True)) (fun _ => True) dkwriE (dkwriU w0 w1 V U kb res d n x s) 10 dkwriN [8] (by kernel_rfl) (by kernel_rfl) (by kernel_rfl)
    dkwriB (by kernel_rfl) (fun ix kx v e w w' hi hk hne hb hU hT => dkwri_T _ _ _ _ _ _ _ _ _ _  ix kx v e w w' hk hne hb hU hT) (by decide) trivial (fun kx hk hge => ?hv0)
    [14, 15, 16, 17, 18, 19, 20, 21, 11] (by kernel_rfl) (forall_ops ?steps) ?behind
  case hv0 =>
    have hge' : 9 ≤ kx := hge
    rcases (show kx = 9 by omega) with rfl
    · exact (Below.refl _ _).drew
  case steps =>
    refine ⟨?_, ?_, ?_, ?_, ?_, ?_, ?_, ?_, ?_, trivial⟩
    · refine stepG_of rfl ?_
      exact stepR_value (t := 14) (.pointer (some ⟨kb, 0, none⟩)) rfl (fun _ => appT_other (by decide) (Below.refl _ _)) (fun ac w hG hN hO => by
        have e10 : slot ac 10 = .pointer (some ⟨w1.heap.size, 0, none⟩) := hO 10 (by kernel_rfl)
        have hx : Below U.heap.size U w := hN 9 (by decide)
        obtain ⟨q0, _⟩ := row_one (HPB.out.step hx)
        obtain ⟨u1, _⟩ := row_one (HU1.out.step hx)
        obtain ⟨u2, _⟩ := row_one (HU2.out.step hx)
        obtain ⟨u3, _⟩ := row_one (HU3.out.step hx)
        have f10 := slot_at e10
        unfold execOp; go_simp) (fun ac w hG hN => rfl)
    · refine stepG_of rfl ?_
      exact stepR_value (t := 15) (.pointer (some ⟨kb, 0, none⟩)) rfl (fun _ => appT_other (by decide) (Below.refl _ _)) (fun ac w hG hN hO => by
        have e10 : slot ac 10 = .pointer (some ⟨w1.heap.size, 0, none⟩) := hO 10 (by kernel_rfl)
        have hx : Below U.heap.size U w := hN 9 (by decide)
        obtain ⟨q0, _⟩ := row_one (HPB.out.step hx)
        obtain ⟨u1, _⟩ := row_one (HU1.out.step hx)
        obtain ⟨u2, _⟩ := row_one (HU2.out.step hx)
        obtain ⟨u3, _⟩ := row_one (HU3.out.step hx)
        have f10 := slot_at e10
        unfold execOp; go_simp) (fun ac w hG hN => rfl)
    · refine stepG_of rfl ?_
      exact stepR_value (t := 16) (.string n) rfl (fun _ => appT_other (by decide) (Below.refl _ _)) (fun ac w hG hN hO => by
        have e5 : slot ac 5 = .pointer (some ⟨w0.heap.size + 1, 0, none⟩) := hO 5 (by kernel_rfl)
        have hx : Below U.heap.size U w := hN 9 (by decide)
        obtain ⟨q0, _⟩ := row_one (HPB.out.step hx)
        obtain ⟨u1, _⟩ := row_one (HU1.out.step hx)
        obtain ⟨u2, _⟩ := row_one (HU2.out.step hx)
        obtain ⟨u3, _⟩ := row_one (HU3.out.step hx)
        have f5 := slot_at e5
        unfold execOp; go_simp) (fun ac w hG hN => rfl)
    · refine stepG_of rfl ?_
      exact stepR_value (t := 17) (.int .i64 x) rfl (fun _ => appT_other (by decide) (Below.refl _ _)) (fun ac w hG hN hO => by
        have e6 : slot ac 6 = .pointer (some ⟨w0.heap.size + 2, 0, none⟩) := hO 6 (by kernel_rfl)
        have hx : Below U.heap.size U w := hN 9 (by decide)
        obtain ⟨q0, _⟩ := row_one (HPB.out.step hx)
        obtain ⟨u1, _⟩ := row_one (HU1.out.step hx)
        obtain ⟨u2, _⟩ := row_one (HU2.out.step hx)
        obtain ⟨u3, _⟩ := row_one (HU3.out.step hx)
        have f6 := slot_at e6
        unfold execOp; go_simp) (fun ac w hG hN => rfl)
    · refine stepG_of rfl ?_
      exact stepR_value (t := 18) (.string s) rfl (fun _ => appT_other (by decide) (Below.refl _ _)) (fun ac w hG hN hO => by
        have e7 : slot ac 7 = .pointer (some ⟨w0.heap.size + 3, 0, none⟩) := hO 7 (by kernel_rfl)
        have hx : Below U.heap.size U w := hN 9 (by decide)
        obtain ⟨q0, _⟩ := row_one (HPB.out.step hx)
        obtain ⟨u1, _⟩ := row_one (HU1.out.step hx)
        obtain ⟨u2, _⟩ := row_one (HU2.out.step hx)
        obtain ⟨u3, _⟩ := row_one (HU3.out.step hx)
        have f7 := slot_at e7
        unfold execOp; go_simp) (fun ac w hG hN => rfl)
    · refine stepG_of rfl ?_
      intro ac wx hG hN hO
      have e15 : slot ac 15 = .pointer (some ⟨kb, 0, none⟩) := hN 1 (by decide)
      have e16 : slot ac 16 = .string n := hN 2 (by decide)
      have e17 : slot ac 17 = .int .i64 x := hN 3 (by decide)
      have e18 : slot ac 18 = .string s := hN 4 (by decide)
      have hx : Below U.heap.size U wx := hN 9 (by decide)
      refine wp_callx 37 _ _ rfl (enters_of Try.func37 (by kernel_rfl) rfl) #[.pointer (some ⟨kb, 0, none⟩), .string n, .int .i64 x, .string s] (by simp [eval_slot, e15, e16, e17, e18]) (R := fun v wz => v = .int .i64 (wrongW d n x s) ∧ Below wx.heap.size wx wz) ((CW.out wx hx).mono fun e wz hz => ⟨_, hz.1, rfl, hz.2⟩) ?_
      rintro v wz ⟨hv, hb⟩
      exact ⟨v, rfl, appT_other (by decide) hb, trivial, hv⟩
    · refine stepG_of rfl ?_
      exact stepR_value (t := 20) (.func (.func 38) #[] #[.pointer (some ⟨w1.heap.size, 0, none⟩), .pointer (some ⟨w0.heap.size + 1, 0, none⟩), .pointer (some ⟨w0.heap.size + 2, 0, none⟩), .pointer (some ⟨w0.heap.size + 3, 0, none⟩)]) rfl (fun _ => appT_other (by decide) (Below.refl _ _)) (fun ac w hG hN hO => by
        have e10 : slot ac 10 = .pointer (some ⟨w1.heap.size, 0, none⟩) := hO 10 (by kernel_rfl)
        have e5 : slot ac 5 = .pointer (some ⟨w0.heap.size + 1, 0, none⟩) := hO 5 (by kernel_rfl)
        have e6 : slot ac 6 = .pointer (some ⟨w0.heap.size + 2, 0, none⟩) := hO 6 (by kernel_rfl)
        have e7 : slot ac 7 = .pointer (some ⟨w0.heap.size + 3, 0, none⟩) := hO 7 (by kernel_rfl)
        have f10 := slot_at e10
        have f5 := slot_at e5
        have f6 := slot_at e6
        have f7 := slot_at e7
        unfold execOp; go_simp) (fun ac w hG hN => rfl)
    · refine stepG_of rfl ?_
      intro ac wx hG hN hO
      have e14 : slot ac 14 = .pointer (some ⟨kb, 0, none⟩) := hN 0 (by decide)
      have e19 : slot ac 19 = .int .i64 (wrongW d n x s) := hN 5 (by decide)
      have e20 : slot ac 20 = .func (.func 38) #[] #[.pointer (some ⟨w1.heap.size, 0, none⟩), .pointer (some ⟨w0.heap.size + 1, 0, none⟩), .pointer (some ⟨w0.heap.size + 2, 0, none⟩), .pointer (some ⟨w0.heap.size + 3, 0, none⟩)] := hN 6 (by decide)
      have hx : Below U.heap.size U wx := hN 9 (by decide)
      refine wp_callx 36 _ _ rfl (enters_of Try.func36 (by kernel_rfl) rfl) #[.pointer (some ⟨kb, 0, none⟩), .int .i64 (wrongW d n x s), .func (.func 38) #[] #[.pointer (some ⟨w1.heap.size, 0, none⟩), .pointer (some ⟨w0.heap.size + 1, 0, none⟩), .pointer (some ⟨w0.heap.size + 2, 0, none⟩), .pointer (some ⟨w0.heap.size + 3, 0, none⟩)]] (by simp [eval_slot, e14, e19, e20]) (R := fun v wz => v = .int .i64 res.2 ∧ ActP res V kb w1.heap.size (w0.heap.size + 4) wz) ((CA.out wx hx).mono fun e wz hz => ?_) ?_
      · obtain ⟨v2, R2, h1, h2, h3, h4, h5⟩ := hz
        exact ⟨_, h1, rfl, v2, R2, h2, h3, h4, h5⟩
      rintro v wz ⟨hv, hb⟩
      exact ⟨v, rfl, appT_at trivial, trivial, hv, hb⟩
    · refine stepG_of rfl ?_
      intro ac w hG hN hO
      have e21 : slot ac 21 = .int .i64 res.2 ∧ ActP res V kb w1.heap.size (w0.heap.size + 4) w := hN 7 (by decide)
      exact wp_value (run_move_slot (v := slot ac 21) (.inr rfl) rfl) ⟨_, rfl, (fun _ => appT_other (by decide) (Below.refl _ _)) w, hG, e21⟩
  case behind =>
    intro ac w5 hG hV hS ha
    have h8 : slot ac 11 = .int .i64 res.2 ∧ ActP res V kb w1.heap.size (w0.heap.size + 4) w5 := hV 8 (by decide) (by decide)
    generalize slot ac = sl at ha h8
    subst ha
    simp only [patchL, List.contains_cons, List.contains_nil, Nat.reduceBEq, Bool.or_false, Bool.or_true, if_true, Bool.false_eq_true, if_false, Nat.reduceAdd]
    generalize sl 14 = s14
    generalize sl 15 = s15
    generalize sl 16 = s16
    generalize sl 17 = s17
    generalize sl 18 = s18
    generalize sl 19 = s19
    generalize sl 20 = s20
    generalize sl 21 = s21
    generalize sl 11 = s11 at h8 ⊢
    clear hV hS
    obtain ⟨hv9, v3, R3, hM3, hb3, g1, g2⟩ := h8
    subst hv9
    obtain ⟨q0, _⟩ := row_one g1
    have HM3 := Lib.hid hM3; have HBE := Lib.hid hb3; have HR3 := Lib.hid g2
    clear hG hM3 hb3 g1 g2
    
    obtain ⟨m0, m1, m2, fm⟩ := HM3.out.cell
    obtain ⟨a3, n3, e3, hv3⟩ := HM3.out.own.len
    subst hv3
    have hrow := HR3.out
    obtain ⟨r0, r1, r2, fr⟩ : w5.cell? ⟨w0.heap.size + 4, 0, none⟩ = some (.slice none 0 0) ∧ w5.cell? ⟨w0.heap.size + 4, 1, none⟩ = some (.bool false) ∧ w5.cell? ⟨w0.heap.size + 4, 2, none⟩ = some (.int .i64 0) ∧ ∀ i, w5.frozen? ⟨w0.heap.size + 4, i, none⟩ = false := by
      have p0 := hrow.cell 0; have p1 := hrow.cell 1; have p2 := hrow.cell 2
      simp only [List.getElem?_toArray, List.getElem?_cons_zero, List.getElem?_cons_succ] at p0 p1 p2
      exact ⟨p0, p1, p2, fun i => hrow.free i⟩
    have HW4 : Hid (Row (((w5.setCell ⟨w0.heap.size + 4, 0, none⟩ (.slice a3 n3 e3)).setCell ⟨w0.heap.size + 4, 1, none⟩ (.bool res.1.off)).setCell ⟨w0.heap.size + 4, 2, none⟩ (.int .i64 res.1.fuse)) (w0.heap.size + 4) #[.slice a3 n3 e3, .bool res.1.off, .int .i64 res.1.fuse] 24) := Lib.hid (by have := ((hrow.set 0 (.slice a3 n3 e3)).set 1 (.bool res.1.off)).set 2 (.int .i64 res.1.fuse); exact this)
    have HD4 : Hid (IsDfs (((w5.setCell ⟨w0.heap.size + 4, 0, none⟩ (.slice a3 n3 e3)).setCell ⟨w0.heap.size + 4, 1, none⟩ (.bool res.1.off)).setCell ⟨w0.heap.size + 4, 2, none⟩ (.int .i64 res.1.fuse)) (.slice a3 n3 e3) res.1.fs ∧ Below w0.heap.size w0 (((w5.setCell ⟨w0.heap.size + 4, 0, none⟩ (.slice a3 n3 e3)).setCell ⟨w0.heap.size + 4, 1, none⟩ (.bool res.1.off)).setCell ⟨w0.heap.size + 4, 2, none⟩ (.int .i64 res.1.fuse))) := Lib.hid (by
      have hlo : w0.heap.size + 4 < V.heap.size := HB4.out.lt
      have t1 := ownD_set (i := 2) (u := .int .i64 res.1.fuse) (ownD_set (i := 1) (u := .bool res.1.off) (ownD_set (i := 0) (u := .slice a3 n3 e3) HM3.out.own hlo) hlo) hlo
      have hop : ∀ (i : Nat) (u : Value) (W : World) (y : Dfr) (x : Dfl), RowP V.heap.size W y x → RowP V.heap.size (W.setCell ⟨w0.heap.size + 4, i, none⟩ u) y x := fun i u W y x hx => ⟨hx.1, hx.2.1, hx.2.2.turned (grownBy_set_Dlh W _ i u) hlo⟩
      refine ⟨t1.is (HM3.out.rows.imp fun y x hx => (hop 2 _ _ _ _ (hop 1 _ _ _ _ (hop 0 _ _ _ _ hx))).f) (fun y x h => h), ?_⟩
      exact (((below_step HBV.out HBE.out).setCell (p := ⟨w0.heap.size + 4, 0, none⟩) (by simp) _).setCell (p := ⟨w0.heap.size + 4, 1, none⟩) (by simp) _).setCell (p := ⟨w0.heap.size + 4, 2, none⟩) (by simp) _)
    clear hrow
    have hks : kb ≠ w0.heap.size + 4 := fun e => by
      have g1 := HM3.out.from_; have g2 := HB4.out.lt
      omega
    go_wp2
    have r0' := HW4.out.cell 0; have r1' := HW4.out.cell 1; have r2' := HW4.out.cell 2
    simp only [List.getElem?_toArray, List.getElem?_cons_zero, List.getElem?_cons_succ] at r0' r1' r2'
    exact bodyPost_ret (v := .tuple #[dskV (.slice a3 n3 e3) res.1, .int .i64 res.2]) (by unfold dskV; simp [results, Try.results17, go_sem, r0', r1', r2']) rfl ⟨.slice a3 n3 e3, by rw [← HRES.out], by rw [← HRES.out]; exact HD4.out.1, HD4.out.2⟩
def dksynU (w0 w1 V U : World) (kb : Nat) (res : Dsk × Int) (d : Dsk) (n : ByteArray) : Nat → Value → Value → World → Prop
  | 0 => fun v _ _ => v = .pointer (some ⟨kb, 0, none⟩)
  | 1 => fun v _ _ => v = .pointer (some ⟨kb, 0, none⟩)
  | 2 => fun v _ _ => v = .string n
  | 3 => fun v _ _ => v = .int .i64 (missD d n)
  | 4 => fun v _ _ => v = .func (.func 44) #[] #[.pointer (some ⟨w1.heap.size, 0, none⟩), .pointer (some ⟨w0.heap.size + 1, 0, none⟩)]
  | 5 => fun v _ wz => v = .int .i64 res.2 ∧ ActP res V kb w1.heap.size (w0.heap.size + 2) wz
  | 6 => fun v _ wz => v = .int .i64 res.2 ∧ ActP res V kb w1.heap.size (w0.heap.size + 2) wz
  | 7 => fun _ _ wz => Below U.heap.size U wz
  | _ => fun _ _ _ => True
def dksynN : List (List Nat) := [[7], [7], [7], [1, 2, 7], [], [0, 3, 4, 7], [5]]
def dksynE : Nat → Option Tmp
  | _ => none
def dksynB : List (Nat × Nat) := [(5, 6), (5, 7)]
theorem dksyn_T (w0 w1 V U : World) (kb : Nat) (res : Dsk × Int) (d : Dsk) (n : ByteArray) (ix kx : Nat) (v e : Value) (w w' : World) (hk : kx < 8) (hne : kx ≠ ix) (hbd : (ix, kx) ∉ dksynB) (hU : (dksynU w0 w1 V U kb res d n) kx v e w) (hT : (appT 5 (fun _ _ => True)) ix w w') : (dksynU w0 w1 V U kb res d n) kx v e w' := by
  by_cases hi5 : ix = 5
  · subst hi5
    have hR := appT_in hT
    rcases (show kx = 0 ∨ kx = 1 ∨ kx = 2 ∨ kx = 3 ∨ kx = 4 ∨ kx = 5 ∨ kx = 6 ∨ kx = 7 by omega) with rfl | rfl | rfl | rfl | rfl | rfl | rfl | rfl
    iterate 5 exact hU
    · exact absurd rfl hne
    · exact absurd (by decide) hbd
    · exact absurd (by decide) hbd
  have hb : Below w.heap.size w w' := appT_out hi5 hT
  rcases (show kx = 0 ∨ kx = 1 ∨ kx = 2 ∨ kx = 3 ∨ kx = 4 ∨ kx = 5 ∨ kx = 6 ∨ kx = 7 by omega) with rfl | rfl | rfl | rfl | rfl | rfl | rfl | rfl
  iterate 5 exact hU
  · exact ⟨hU.1, ActP.stays hU.2 hb⟩
  · exact ⟨hU.1, ActP.stays hU.2 hb⟩
  · exact below_step hU hb
set_option maxRecDepth 100000 in
set_option maxHeartbeats 8000000 in
theorem pSync_any (d : Dsk) (v0 : Value) (n : ByteArray) (w0 : World) (h : IsDfs w0 v0 d.fs) (hf : FitD nameB d) :
    Calls Try.prog 19 #[dskV v0 d, .string n] w0 (RetD (syncD d n) w0) := by
  have hr := hf.rise; have hl8 := hf.many
  have ho : ∀ f ∈ d.fs, f.ops.length ≤ 1000 := fun f hm => Nat.le_trans (hf.files f hm).many (by decide)
  obtain ⟨_, a, cap, hu, _, _⟩ := id h
  obtain ⟨z, hz⟩ : ∃ z, z = d.fs.length := ⟨_, rfl⟩
  rw [← hz] at hu
  subst hu
  obtain ⟨V, hV⟩ : ∃ V, V = (((w0.alloc (.cells #[.slice a z cap, .bool d.off, .int .i64 d.fuse] 24)).alloc (.cells #[.string n] 9)).alloc (.cells #[.slice none 0 0, .bool false, .int .i64 0] 24)) := ⟨_, rfl⟩
  have hbV : Below w0.heap.size w0 V := by rw [hV]; exact (((Below.refl _ _).alloc (by simp) _).alloc (by simp) _).alloc (by simp; try omega) _
  have hB0 : Row V (w0.heap.size) #[.slice a z cap, .bool d.off, .int .i64 d.fuse] 24 := by
    have h0 := Row.made w0 #[.slice a z cap, .bool d.off, .int .i64 d.fuse] 24
    have hs : w0.heap.size = w0.heap.size := by simp
    rw [hs] at h0
    rw [hV]; exact ((h0).alloc _).alloc _
  have hB1 : Row V (w0.heap.size + 1) #[.string n] 9 := by
    have h0 := Row.made (w0.alloc (.cells #[.slice a z cap, .bool d.off, .int .i64 d.fuse] 24)) #[.string n] 9
    have hs : (w0.alloc (.cells #[.slice a z cap, .bool d.off, .int .i64 d.fuse] 24)).heap.size = w0.heap.size + 1 := by simp
    rw [hs] at h0
    rw [hV]; exact (h0).alloc _
  have hB2 : Row V (w0.heap.size + 2) #[.slice none 0 0, .bool false, .int .i64 0] 24 := by
    have h0 := Row.made ((w0.alloc (.cells #[.slice a z cap, .bool d.off, .int .i64 d.fuse] 24)).alloc (.cells #[.string n] 9)) #[.slice none 0 0, .bool false, .int .i64 0] 24
    have hs : ((w0.alloc (.cells #[.slice a z cap, .bool d.off, .int .i64 d.fuse] 24)).alloc (.cells #[.string n] 9)).heap.size = w0.heap.size + 2 := by simp
    rw [hs] at h0
    rw [hV]; exact h0
  have CM := Lib.hid (newMachine_any d (.slice a z cap) V (h.stays hbV) (by omega) ho)
  have HV := Lib.hid hV; have HBV := Lib.hid hbV; have HF := Lib.hid hf
  have HB0 := Lib.hid hB0
  have HB1 := Lib.hid hB1
  have HB2 := Lib.hid hB2
  have HDO := Lib.hid ho
  obtain ⟨c0, c1, c2⟩ : V.cell? ⟨w0.heap.size, 0, none⟩ = some (.slice a z cap) ∧ V.cell? ⟨w0.heap.size, 1, none⟩ = some (.bool d.off) ∧ V.cell? ⟨w0.heap.size, 2, none⟩ = some (.int .i64 d.fuse) := by
    have p0 := hB0.cell 0; have p1 := hB0.cell 1; have p2 := hB0.cell 2
    simp only [List.getElem?_toArray, List.getElem?_cons_zero, List.getElem?_cons_succ] at p0 p1 p2
    exact ⟨p0, p1, p2⟩
  have HSP := Lib.hid (syncD_act d n)
  clear hV hbV h hz ho hf hB0 hB1 hB2
  unfold dskV
  go_enter Try.func19, Try.ntmps19
  go_wp2_with fail
  rw [← HV.out]
  go_wp2_with fail
  refine CM.out.mono ?_
  rintro e w1 ⟨kb, v, R, rfl, hM, hb1⟩
  obtain ⟨U, hU⟩ : ∃ U, U = w1.alloc (.cells #[.pointer (some ⟨kb, 0, none⟩)] 62) := ⟨_, rfl⟩
  have hbU : Below w1.heap.size w1 U := by rw [hU]; exact (Below.refl _ _).alloc (Nat.le_refl _) _
  have hPB : Row U w1.heap.size #[.pointer (some ⟨kb, 0, none⟩)] 62 := by rw [hU]; exact Row.made _ _ _
  have hbVU := below_step hb1 hbU
  have HM := Lib.hid (hM.stays hbU); have HPB := Lib.hid hPB; have HU := Lib.hid hU; have HBU := Lib.hid hbVU
  have HU1 := Lib.hid (HB1.out.step hbVU)
  have HU2 := Lib.hid (HB2.out.step hbVU)
  have hVU : V.heap.size ≤ U.heap.size := hbVU.size
  obtain ⟨u1, _⟩ := row_one HU1.out
  obtain ⟨q0, _⟩ := row_one hPB
  have CW : Hid (∀ W, Below U.heap.size U W → Calls Try.prog 43 #[.pointer (some ⟨kb, 0, none⟩), .string n] W fun e w' => e = .returned (.int .i64 (missD d n)) ∧ Below W.heap.size W w') := Lib.hid fun W hW => by
    refine (missing_any n W (HM.out.stays hW) hr (by omega)).mono ?_
    rintro e w' ⟨rfl, hb⟩
    exact ⟨rfl, hb⟩
  have CA : Hid (∀ W, Below U.heap.size U W → Calls Try.prog 36 #[.pointer (some ⟨kb, 0, none⟩), .int .i64 (missD d n), .func (.func 44) #[] #[.pointer (some ⟨w1.heap.size, 0, none⟩), .pointer (some ⟨w0.heap.size + 1, 0, none⟩)]] W fun e w' => ∃ v2 R2, e = .returned (.int .i64 (actD d (missD d n) (withF d.fs ⟨n, strT (seenF (gotF d n)), []⟩)).2) ∧ Mch V.heap.size kb w' v2 R2 (actD d (missD d n) (withF d.fs ⟨n, strT (seenF (gotF d n)), []⟩)).1 ∧ Below V.heap.size V w' ∧ Row w' w1.heap.size #[.pointer (some ⟨kb, 0, none⟩)] 62 ∧ Row w' (w0.heap.size + 2) #[.slice none 0 0, .bool false, .int .i64 0] 24) := Lib.hid fun W hW => by
    have hVW : V.heap.size ≤ W.heap.size := Nat.le_trans hVU hW.size
    refine (act_any V.heap.size kb v R d (missD d n) 44 _ (withF d.fs ⟨n, strT (seenF (gotF d n)), []⟩) (enters_of Try.func44 (by kernel_rfl) rfl) W (HM.out.stays hW) hVW HF.out.lo HF.out.hi ?_).mono ?_
    · intro hw hoff W2 f2 hk hB2 hM2
      have hkk := fun {b : Nat} {xs : Array Value} {Ty : TypeId} (g1 : Ty ≠ 57) (g2 : Ty ≠ 47) (g3 : Ty ≠ 52) (g : Row U b xs Ty) => hk b xs Ty g1 g2 g3 (g.step hW)
      exact sync1_any (d := ⟨d.fs, false, f2⟩) W2 (hkk (by decide) (by decide) (by decide) HPB.out) (hkk (by decide) (by decide) (by decide) HU1.out) hM2 hB2 hr (by show d.fs.length ≤ 1000; omega) (gotF_some hw) (HF.out.files _ ((getF_some hr).1 (gotF_some hw)).1).bytes (HF.out.files _ ((getF_some hr).1 (gotF_some hw)).1).ops
    · rintro e w' ⟨v2, R2, rfl, g1, g2, g3⟩
      exact ⟨v2, R2, rfl, g1, HBU.out.trans ((hW.mono hVU).trans g2), g3 _ _ _ (by decide) (by decide) (by decide) (HPB.out.step hW), g3 _ _ _ (by decide) (by decide) (by decide) (HU2.out.step hW)⟩
  rw [← HSP.out] at CA
  obtain ⟨res, hres⟩ : ∃ r, r = syncD d n := ⟨_, rfl⟩
  rw [← hres] at CA
  have HRES := Lib.hid hres
  clear c0 c1 c2 hM hb1 hbU hPB hU hbVU hres HSP
  go_wp2_with fail
  rw [← HU.out]
  go_wp2_with fail
  clear q0 u1
  refine wp_region_wordsG (by kernel_rfl) (by kernel_rfl) (appT 5 (fun _ _ => True)) (fun _ => True) dksynE (dksynU w0 w1 V U kb res d n) 8 dksynN [6] (by kernel_rfl) (by kernel_rfl) (by kernel_rfl)
    dksynB (by kernel_rfl) (fun ix kx v e w w' hi hk hne hb hU hT => dksyn_T _ _ _ _ _ _ _ _  ix kx v e w w' hk hne hb hU hT) (by decide) trivial (fun kx hk hge => ?hv0)
    [10, 11, 12, 13, 14, 15, 7] (by kernel_rfl) (forall_ops ?steps) ?behind
  case hv0 =>
    have hge' : 7 ≤ kx := hge
    rcases (show kx = 7 by omega) with rfl
    · exact (Below.refl _ _).drew
  case steps =>
    refine ⟨?_, ?_, ?_, ?_, ?_, ?_, ?_, trivial⟩
    · refine stepG_of rfl ?_
      exact stepR_value (t := 10) (.pointer (some ⟨kb, 0, none⟩)) rfl (fun _ => appT_other (by decide) (Below.refl _ _)) (fun ac w hG hN hO => by
        have e6 : slot ac 6 = .pointer (some ⟨w1.heap.size, 0, none⟩) := hO 6 (by kernel_rfl)
        have hx : Below U.heap.size U w := hN 7 (by decide)
        obtain ⟨q0, _⟩ := row_one (HPB.out.step hx)
        obtain ⟨u1, _⟩ := row_one (HU1.out.step hx)
        have f6 := slot_at e6
        unfold execOp; go_simp) (fun ac w hG hN => rfl)
    · refine stepG_of rfl ?_
      exact stepR_value (t := 11) (.pointer (some ⟨kb, 0, none⟩)) rfl (fun _ => appT_other (by decide) (Below.refl _ _)) (fun ac w hG hN hO => by
        have e6 : slot ac 6 = .pointer (some ⟨w1.heap.size, 0, none⟩) := hO 6 (by kernel_rfl)
        have hx : Below U.heap.size U w := hN 7 (by decide)
        obtain ⟨q0, _⟩ := row_one (HPB.out.step hx)
        obtain ⟨u1, _⟩ := row_one (HU1.out.step hx)
        have f6 := slot_at e6
        unfold execOp; go_simp) (fun ac w hG hN => rfl)
    · refine stepG_of rfl ?_
      exact stepR_value (t := 12) (.string n) rfl (fun _ => appT_other (by decide) (Below.refl _ _)) (fun ac w hG hN hO => by
        have e3 : slot ac 3 = .pointer (some ⟨w0.heap.size + 1, 0, none⟩) := hO 3 (by kernel_rfl)
        have hx : Below U.heap.size U w := hN 7 (by decide)
        obtain ⟨q0, _⟩ := row_one (HPB.out.step hx)
        obtain ⟨u1, _⟩ := row_one (HU1.out.step hx)
        have f3 := slot_at e3
        unfold execOp; go_simp) (fun ac w hG hN => rfl)
    · refine stepG_of rfl ?_
      intro ac wx hG hN hO
      have e11 : slot ac 11 = .pointer (some ⟨kb, 0, none⟩) := hN 1 (by decide)
      have e12 : slot ac 12 = .string n := hN 2 (by decide)
      have hx : Below U.heap.size U wx := hN 7 (by decide)
      refine wp_callx 43 _ _ rfl (enters_of Try.func43 (by kernel_rfl) rfl) #[.pointer (some ⟨kb, 0, none⟩), .string n] (by simp [eval_slot, e11, e12]) (R := fun v wz => v = .int .i64 (missD d n) ∧ Below wx.heap.size wx wz) ((CW.out wx hx).mono fun e wz hz => ⟨_, hz.1, rfl, hz.2⟩) ?_
      rintro v wz ⟨hv, hb⟩
      exact ⟨v, rfl, appT_other (by decide) hb, trivial, hv⟩
    · refine stepG_of rfl ?_
      exact stepR_value (t := 14) (.func (.func 44) #[] #[.pointer (some ⟨w1.heap.size, 0, none⟩), .pointer (some ⟨w0.heap.size + 1, 0, none⟩)]) rfl (fun _ => appT_other (by decide) (Below.refl _ _)) (fun ac w hG hN hO => by
        have e6 : slot ac 6 = .pointer (some ⟨w1.heap.size, 0, none⟩) := hO 6 (by kernel_rfl)
        have e3 : slot ac 3 = .pointer (some ⟨w0.heap.size + 1, 0, none⟩) := hO 3 (by kernel_rfl)
        have f6 := slot_at e6
        have f3 := slot_at e3
        unfold execOp; go_simp) (fun ac w hG hN => rfl)
    · refine stepG_of rfl ?_
      intro ac wx hG hN hO
      have e10 : slot ac 10 = .pointer (some ⟨kb, 0, none⟩) := hN 0 (by decide)
      have e13 : slot ac 13 = .int .i64 (missD d n) := hN 3 (by decide)
      have e14 : slot ac 14 = .func (.func 44) #[] #[.pointer (some ⟨w1.heap.size, 0, none⟩), .pointer (some ⟨w0.heap.size + 1, 0, none⟩)] := hN 4 (by decide)
      have hx : Below U.heap.size U wx := hN 7 (by decide)
      refine wp_callx 36 _ _ rfl (enters_of Try.func36 (by kernel_rfl) rfl) #[.pointer (some ⟨kb, 0, none⟩), .int .i64 (missD d n), .func (.func 44) #[] #[.pointer (some ⟨w1.heap.size, 0, none⟩), .pointer (some ⟨w0.heap.size + 1, 0, none⟩)]] (by simp [eval_slot, e10, e13, e14]) (R := fun v wz => v = .int .i64 res.2 ∧ ActP res V kb w1.heap.size (w0.heap.size + 2) wz) ((CA.out wx hx).mono fun e wz hz => ?_) ?_
      · obtain ⟨v2, R2, h1, h2, h3, h4, h5⟩ := hz
        exact ⟨_, h1, rfl, v2, R2, h2, h3, h4, h5⟩
      rintro v wz ⟨hv, hb⟩
      exact ⟨v, rfl, appT_at trivial, trivial, hv, hb⟩
    · refine stepG_of rfl ?_
      intro ac w hG hN hO
      have e15 : slot ac 15 = .int .i64 res.2 ∧ ActP res V kb w1.heap.size (w0.heap.size + 2) w := hN 5 (by decide)
      exact wp_value (run_move_slot (v := slot ac 15) (.inr rfl) rfl) ⟨_, rfl, (fun _ => appT_other (by decide) (Below.refl _ _)) w, hG, e15⟩
  case behind =>
    intro ac w5 hG hV hS ha
    have h6 : slot ac 7 = .int .i64 res.2 ∧ ActP res V kb w1.heap.size (w0.heap.size + 2) w5 := hV 6 (by decide) (by decide)
    generalize slot ac = sl at ha h6
    subst ha
    simp only [patchL, List.contains_cons, List.contains_nil, Nat.reduceBEq, Bool.or_false, Bool.or_true, if_true, Bool.false_eq_true, if_false, Nat.reduceAdd]
    generalize sl 10 = s10
    generalize sl 11 = s11
    generalize sl 12 = s12
    generalize sl 13 = s13
    generalize sl 14 = s14
    generalize sl 15 = s15
    generalize sl 7 = s7 at h6 ⊢
    clear hV hS
    obtain ⟨hv9, v3, R3, hM3, hb3, g1, g2⟩ := h6
    subst hv9
    obtain ⟨q0, _⟩ := row_one g1
    have HM3 := Lib.hid hM3; have HBE := Lib.hid hb3; have HR3 := Lib.hid g2
    clear hG hM3 hb3 g1 g2
    
    obtain ⟨m0, m1, m2, fm⟩ := HM3.out.cell
    obtain ⟨a3, n3, e3, hv3⟩ := HM3.out.own.len
    subst hv3
    have hrow := HR3.out
    obtain ⟨r0, r1, r2, fr⟩ : w5.cell? ⟨w0.heap.size + 2, 0, none⟩ = some (.slice none 0 0) ∧ w5.cell? ⟨w0.heap.size + 2, 1, none⟩ = some (.bool false) ∧ w5.cell? ⟨w0.heap.size + 2, 2, none⟩ = some (.int .i64 0) ∧ ∀ i, w5.frozen? ⟨w0.heap.size + 2, i, none⟩ = false := by
      have p0 := hrow.cell 0; have p1 := hrow.cell 1; have p2 := hrow.cell 2
      simp only [List.getElem?_toArray, List.getElem?_cons_zero, List.getElem?_cons_succ] at p0 p1 p2
      exact ⟨p0, p1, p2, fun i => hrow.free i⟩
    have HW4 : Hid (Row (((w5.setCell ⟨w0.heap.size + 2, 0, none⟩ (.slice a3 n3 e3)).setCell ⟨w0.heap.size + 2, 1, none⟩ (.bool res.1.off)).setCell ⟨w0.heap.size + 2, 2, none⟩ (.int .i64 res.1.fuse)) (w0.heap.size + 2) #[.slice a3 n3 e3, .bool res.1.off, .int .i64 res.1.fuse] 24) := Lib.hid (by have := ((hrow.set 0 (.slice a3 n3 e3)).set 1 (.bool res.1.off)).set 2 (.int .i64 res.1.fuse); exact this)
    have HD4 : Hid (IsDfs (((w5.setCell ⟨w0.heap.size + 2, 0, none⟩ (.slice a3 n3 e3)).setCell ⟨w0.heap.size + 2, 1, none⟩ (.bool res.1.off)).setCell ⟨w0.heap.size + 2, 2, none⟩ (.int .i64 res.1.fuse)) (.slice a3 n3 e3) res.1.fs ∧ Below w0.heap.size w0 (((w5.setCell ⟨w0.heap.size + 2, 0, none⟩ (.slice a3 n3 e3)).setCell ⟨w0.heap.size + 2, 1, none⟩ (.bool res.1.off)).setCell ⟨w0.heap.size + 2, 2, none⟩ (.int .i64 res.1.fuse))) := Lib.hid (by
      have hlo : w0.heap.size + 2 < V.heap.size := HB2.out.lt
      have t1 := ownD_set (i := 2) (u := .int .i64 res.1.fuse) (ownD_set (i := 1) (u := .bool res.1.off) (ownD_set (i := 0) (u := .slice a3 n3 e3) HM3.out.own hlo) hlo) hlo
      have hop : ∀ (i : Nat) (u : Value) (W : World) (y : Dfr) (x : Dfl), RowP V.heap.size W y x → RowP V.heap.size (W.setCell ⟨w0.heap.size + 2, i, none⟩ u) y x := fun i u W y x hx => ⟨hx.1, hx.2.1, hx.2.2.turned (grownBy_set_Dlh W _ i u) hlo⟩
      refine ⟨t1.is (HM3.out.rows.imp fun y x hx => (hop 2 _ _ _ _ (hop 1 _ _ _ _ (hop 0 _ _ _ _ hx))).f) (fun y x h => h), ?_⟩
      exact (((below_step HBV.out HBE.out).setCell (p := ⟨w0.heap.size + 2, 0, none⟩) (by simp) _).setCell (p := ⟨w0.heap.size + 2, 1, none⟩) (by simp) _).setCell (p := ⟨w0.heap.size + 2, 2, none⟩) (by simp) _)
    clear hrow
    have hks : kb ≠ w0.heap.size + 2 := fun e => by
      have g1 := HM3.out.from_; have g2 := HB2.out.lt
      omega
    go_wp2
    have r0' := HW4.out.cell 0; have r1' := HW4.out.cell 1; have r2' := HW4.out.cell 2
    simp only [List.getElem?_toArray, List.getElem?_cons_zero, List.getElem?_cons_succ] at r0' r1' r2'
    exact bodyPost_ret (v := .tuple #[dskV (.slice a3 n3 e3) res.1, .int .i64 res.2]) (by unfold dskV; simp [results, Try.results19, go_sem, r0', r1', r2']) rfl ⟨.slice a3 n3 e3, by rw [← HRES.out], by rw [← HRES.out]; exact HD4.out.1, HD4.out.2⟩
def dkrenU (w0 w1 V U : World) (kb : Nat) (res : Dsk × Int) (d : Dsk) (n : ByteArray) (m : ByteArray) : Nat → Value → Value → World → Prop
  | 0 => fun v _ _ => v = .pointer (some ⟨kb, 0, none⟩)
  | 1 => fun v _ _ => v = .pointer (some ⟨kb, 0, none⟩)
  | 2 => fun v _ _ => v = .string n
  | 3 => fun v _ _ => v = .string m
  | 4 => fun v _ _ => v = .int .i64 (wrongR d n m)
  | 5 => fun v _ _ => v = .func (.func 49) #[] #[.pointer (some ⟨w1.heap.size, 0, none⟩), .pointer (some ⟨w0.heap.size + 1, 0, none⟩), .pointer (some ⟨w0.heap.size + 2, 0, none⟩)]
  | 6 => fun v _ wz => v = .int .i64 res.2 ∧ ActP res V kb w1.heap.size (w0.heap.size + 3) wz
  | 7 => fun v _ wz => v = .int .i64 res.2 ∧ ActP res V kb w1.heap.size (w0.heap.size + 3) wz
  | 8 => fun _ _ wz => Below U.heap.size U wz
  | _ => fun _ _ _ => True
def dkrenN : List (List Nat) := [[8], [8], [8], [8], [1, 2, 3, 8], [], [0, 4, 5, 8], [6]]
def dkrenE : Nat → Option Tmp
  | _ => none
def dkrenB : List (Nat × Nat) := [(6, 7), (6, 8)]
theorem dkren_T (w0 w1 V U : World) (kb : Nat) (res : Dsk × Int) (d : Dsk) (n : ByteArray) (m : ByteArray) (ix kx : Nat) (v e : Value) (w w' : World) (hk : kx < 9) (hne : kx ≠ ix) (hbd : (ix, kx) ∉ dkrenB) (hU : (dkrenU w0 w1 V U kb res d n m) kx v e w) (hT : (appT 6 (fun _ _ => True)) ix w w') : (dkrenU w0 w1 V U kb res d n m) kx v e w' := by
  by_cases hi6 : ix = 6
  · subst hi6
    have hR := appT_in hT
    rcases (show kx = 0 ∨ kx = 1 ∨ kx = 2 ∨ kx = 3 ∨ kx = 4 ∨ kx = 5 ∨ kx = 6 ∨ kx = 7 ∨ kx = 8 by omega) with rfl | rfl | rfl | rfl | rfl | rfl | rfl | rfl | rfl
    iterate 6 exact hU
    · exact absurd rfl hne
    · exact absurd (by decide) hbd
    · exact absurd (by decide) hbd
  have hb : Below w.heap.size w w' := appT_out hi6 hT
  rcases (show kx = 0 ∨ kx = 1 ∨ kx = 2 ∨ kx = 3 ∨ kx = 4 ∨ kx = 5 ∨ kx = 6 ∨ kx = 7 ∨ kx = 8 by omega) with rfl | rfl | rfl | rfl | rfl | rfl | rfl | rfl | rfl
  iterate 6 exact hU
  · exact ⟨hU.1, ActP.stays hU.2 hb⟩
  · exact ⟨hU.1, ActP.stays hU.2 hb⟩
  · exact below_step hU hb
set_option maxRecDepth 100000 in
set_option maxHeartbeats 8000000 in
theorem pRename_any (d : Dsk) (v0 : Value) (n : ByteArray) (m : ByteArray) (w0 : World) (h : IsDfs w0 v0 d.fs) (hf : FitD nameB d) (hms : m.size ≤ 1000000) :
    Calls Try.prog 21 #[dskV v0 d, .string n, .string m] w0 (RetD (renameD nameB d n m) w0) := by
  have hr := hf.rise; have hl8 := hf.many
  have ho : ∀ f ∈ d.fs, f.ops.length ≤ 1000 := fun f hm => Nat.le_trans (hf.files f hm).many (by decide)
  obtain ⟨_, a, cap, hu, _, _⟩ := id h
  obtain ⟨z, hz⟩ : ∃ z, z = d.fs.length := ⟨_, rfl⟩
  rw [← hz] at hu
  subst hu
  obtain ⟨V, hV⟩ : ∃ V, V = ((((w0.alloc (.cells #[.slice a z cap, .bool d.off, .int .i64 d.fuse] 24)).alloc (.cells #[.string n] 9)).alloc (.cells #[.string m] 9)).alloc (.cells #[.slice none 0 0, .bool false, .int .i64 0] 24)) := ⟨_, rfl⟩
  have hbV : Below w0.heap.size w0 V := by rw [hV]; exact ((((Below.refl _ _).alloc (by simp) _).alloc (by simp) _).alloc (by simp; try omega) _).alloc (by simp; try omega) _
  have hB0 : Row V (w0.heap.size) #[.slice a z cap, .bool d.off, .int .i64 d.fuse] 24 := by
    have h0 := Row.made w0 #[.slice a z cap, .bool d.off, .int .i64 d.fuse] 24
    have hs : w0.heap.size = w0.heap.size := by simp
    rw [hs] at h0
    rw [hV]; exact (((h0).alloc _).alloc _).alloc _
  have hB1 : Row V (w0.heap.size + 1) #[.string n] 9 := by
    have h0 := Row.made (w0.alloc (.cells #[.slice a z cap, .bool d.off, .int .i64 d.fuse] 24)) #[.string n] 9
    have hs : (w0.alloc (.cells #[.slice a z cap, .bool d.off, .int .i64 d.fuse] 24)).heap.size = w0.heap.size + 1 := by simp
    rw [hs] at h0
    rw [hV]; exact ((h0).alloc _).alloc _
  have hB2 : Row V (w0.heap.size + 2) #[.string m] 9 := by
    have h0 := Row.made ((w0.alloc (.cells #[.slice a z cap, .bool d.off, .int .i64 d.fuse] 24)).alloc (.cells #[.string n] 9)) #[.string m] 9
    have hs : ((w0.alloc (.cells #[.slice a z cap, .bool d.off, .int .i64 d.fuse] 24)).alloc (.cells #[.string n] 9)).heap.size = w0.heap.size + 2 := by simp
    rw [hs] at h0
    rw [hV]; exact (h0).alloc _
  have hB3 : Row V (w0.heap.size + 3) #[.slice none 0 0, .bool false, .int .i64 0] 24 := by
    have h0 := Row.made (((w0.alloc (.cells #[.slice a z cap, .bool d.off, .int .i64 d.fuse] 24)).alloc (.cells #[.string n] 9)).alloc (.cells #[.string m] 9)) #[.slice none 0 0, .bool false, .int .i64 0] 24
    have hs : (((w0.alloc (.cells #[.slice a z cap, .bool d.off, .int .i64 d.fuse] 24)).alloc (.cells #[.string n] 9)).alloc (.cells #[.string m] 9)).heap.size = w0.heap.size + 3 := by simp
    rw [hs] at h0
    rw [hV]; exact h0
  have CM := Lib.hid (newMachine_any d (.slice a z cap) V (h.stays hbV) (by omega) ho)
  have HV := Lib.hid hV; have HBV := Lib.hid hbV; have HF := Lib.hid hf
  have HB0 := Lib.hid hB0
  have HB1 := Lib.hid hB1
  have HB2 := Lib.hid hB2
  have HB3 := Lib.hid hB3
  have HDO := Lib.hid ho
  obtain ⟨c0, c1, c2⟩ : V.cell? ⟨w0.heap.size, 0, none⟩ = some (.slice a z cap) ∧ V.cell? ⟨w0.heap.size, 1, none⟩ = some (.bool d.off) ∧ V.cell? ⟨w0.heap.size, 2, none⟩ = some (.int .i64 d.fuse) := by
    have p0 := hB0.cell 0; have p1 := hB0.cell 1; have p2 := hB0.cell 2
    simp only [List.getElem?_toArray, List.getElem?_cons_zero, List.getElem?_cons_succ] at p0 p1 p2
    exact ⟨p0, p1, p2⟩
  have HSP := Lib.hid (renameD_act d n m)
  clear hV hbV h hz ho hf hB0 hB1 hB2 hB3
  unfold dskV
  go_enter Try.func21, Try.ntmps21
  go_wp2_with fail
  rw [← HV.out]
  go_wp2_with fail
  refine CM.out.mono ?_
  rintro e w1 ⟨kb, v, R, rfl, hM, hb1⟩
  obtain ⟨U, hU⟩ : ∃ U, U = w1.alloc (.cells #[.pointer (some ⟨kb, 0, none⟩)] 62) := ⟨_, rfl⟩
  have hbU : Below w1.heap.size w1 U := by rw [hU]; exact (Below.refl _ _).alloc (Nat.le_refl _) _
  have hPB : Row U w1.heap.size #[.pointer (some ⟨kb, 0, none⟩)] 62 := by rw [hU]; exact Row.made _ _ _
  have hbVU := below_step hb1 hbU
  have HM := Lib.hid (hM.stays hbU); have HPB := Lib.hid hPB; have HU := Lib.hid hU; have HBU := Lib.hid hbVU
  have HU1 := Lib.hid (HB1.out.step hbVU)
  have HU2 := Lib.hid (HB2.out.step hbVU)
  have HU3 := Lib.hid (HB3.out.step hbVU)
  have hVU : V.heap.size ≤ U.heap.size := hbVU.size
  obtain ⟨u1, _⟩ := row_one HU1.out
  obtain ⟨u2, _⟩ := row_one HU2.out
  obtain ⟨q0, _⟩ := row_one hPB
  have CW : Hid (∀ W, Below U.heap.size U W → Calls Try.prog 48 #[.pointer (some ⟨kb, 0, none⟩), .string n, .string m] W fun e w' => e = .returned (.int .i64 (wrongR d n m)) ∧ Below W.heap.size W w') := Lib.hid fun W hW => by
    refine (wrongRename_any n m W (HM.out.stays hW) hr (by omega)).mono ?_
    rintro e w' ⟨rfl, hb⟩
    exact ⟨rfl, hb⟩
  have CA : Hid (∀ W, Below U.heap.size U W → Calls Try.prog 36 #[.pointer (some ⟨kb, 0, none⟩), .int .i64 (wrongR d n m), .func (.func 49) #[] #[.pointer (some ⟨w1.heap.size, 0, none⟩), .pointer (some ⟨w0.heap.size + 1, 0, none⟩), .pointer (some ⟨w0.heap.size + 2, 0, none⟩)]] W fun e w' => ∃ v2 R2, e = .returned (.int .i64 (actD d (wrongR d n m) (withF (lessF d.fs n.data.toList) ⟨m, (gotF d n).d, (gotF d n).ops⟩)).2) ∧ Mch V.heap.size kb w' v2 R2 (actD d (wrongR d n m) (withF (lessF d.fs n.data.toList) ⟨m, (gotF d n).d, (gotF d n).ops⟩)).1 ∧ Below V.heap.size V w' ∧ Row w' w1.heap.size #[.pointer (some ⟨kb, 0, none⟩)] 62 ∧ Row w' (w0.heap.size + 3) #[.slice none 0 0, .bool false, .int .i64 0] 24) := Lib.hid fun W hW => by
    have hVW : V.heap.size ≤ W.heap.size := Nat.le_trans hVU hW.size
    refine (act_any V.heap.size kb v R d (wrongR d n m) 49 _ (withF (lessF d.fs n.data.toList) ⟨m, (gotF d n).d, (gotF d n).ops⟩) (enters_of Try.func49 (by kernel_rfl) rfl) W (HM.out.stays hW) hVW HF.out.lo HF.out.hi ?_).mono ?_
    · intro hw hoff W2 f2 hk hB2 hM2
      have hkk := fun {b : Nat} {xs : Array Value} {Ty : TypeId} (g1 : Ty ≠ 57) (g2 : Ty ≠ 47) (g3 : Ty ≠ 52) (g : Row U b xs Ty) => hk b xs Ty g1 g2 g3 (g.step hW)
      exact rename1_any (d := ⟨d.fs, false, f2⟩) W2 (hkk (by decide) (by decide) (by decide) HPB.out) (hkk (by decide) (by decide) (by decide) HU1.out) (hkk (by decide) (by decide) (by decide) HU2.out) hM2 hB2 hr (by show d.fs.length ≤ 1000; omega) (by omega) (gotF_some (d := d) (by unfold wrongR at hw; split at hw; exact absurd hw (by decide); exact hw))
    · rintro e w' ⟨v2, R2, rfl, g1, g2, g3⟩
      exact ⟨v2, R2, rfl, g1, HBU.out.trans ((hW.mono hVU).trans g2), g3 _ _ _ (by decide) (by decide) (by decide) (HPB.out.step hW), g3 _ _ _ (by decide) (by decide) (by decide) (HU3.out.step hW)⟩
  rw [← HSP.out] at CA
  obtain ⟨res, hres⟩ : ∃ r, r = renameD nameB d n m := ⟨_, rfl⟩
  rw [← hres] at CA
  have HRES := Lib.hid hres
  clear c0 c1 c2 hM hb1 hbU hPB hU hbVU hres HSP
  go_wp2_with fail
  rw [← HU.out]
  go_wp2_with fail
  clear q0 u1 u2
  refine wp_region_wordsG (by kernel_rfl) (by kernel_rfl) (appT 6 (fun _ _ => True)) (fun _ => True) dkrenE (dkrenU w0 w1 V U kb res d n m) 9 dkrenN [7] (by kernel_rfl) (by kernel_rfl) (by kernel_rfl)
    dkrenB (by kernel_rfl) (fun ix kx v e w w' hi hk hne hb hU hT => dkren_T _ _ _ _ _ _ _ _ _  ix kx v e w w' hk hne hb hU hT) (by decide) trivial (fun kx hk hge => ?hv0)
    [12, 13, 14, 15, 16, 17, 18, 9] (by kernel_rfl) (forall_ops ?steps) ?behind
  case hv0 =>
    have hge' : 8 ≤ kx := hge
    rcases (show kx = 8 by omega) with rfl
    · exact (Below.refl _ _).drew
  case steps =>
    refine ⟨?_, ?_, ?_, ?_, ?_, ?_, ?_, ?_, trivial⟩
    · refine stepG_of rfl ?_
      exact stepR_value (t := 12) (.pointer (some ⟨kb, 0, none⟩)) rfl (fun _ => appT_other (by decide) (Below.refl _ _)) (fun ac w hG hN hO => by
        have e8 : slot ac 8 = .pointer (some ⟨w1.heap.size, 0, none⟩) := hO 8 (by kernel_rfl)
        have hx : Below U.heap.size U w := hN 8 (by decide)
        obtain ⟨q0, _⟩ := row_one (HPB.out.step hx)
        obtain ⟨u1, _⟩ := row_one (HU1.out.step hx)
        obtain ⟨u2, _⟩ := row_one (HU2.out.step hx)
        have f8 := slot_at e8
        unfold execOp; go_simp) (fun ac w hG hN => rfl)
    · refine stepG_of rfl ?_
      exact stepR_value (t := 13) (.pointer (some ⟨kb, 0, none⟩)) rfl (fun _ => appT_other (by decide) (Below.refl _ _)) (fun ac w hG hN hO => by
        have e8 : slot ac 8 = .pointer (some ⟨w1.heap.size, 0, none⟩) := hO 8 (by kernel_rfl)
        have hx : Below U.heap.size U w := hN 8 (by decide)
        obtain ⟨q0, _⟩ := row_one (HPB.out.step hx)
        obtain ⟨u1, _⟩ := row_one (HU1.out.step hx)
        obtain ⟨u2, _⟩ := row_one (HU2.out.step hx)
        have f8 := slot_at e8
        unfold execOp; go_simp) (fun ac w hG hN => rfl)
    · refine stepG_of rfl ?_
      exact stepR_value (t := 14) (.string n) rfl (fun _ => appT_other (by decide) (Below.refl _ _)) (fun ac w hG hN hO => by
        have e4 : slot ac 4 = .pointer (some ⟨w0.heap.size + 1, 0, none⟩) := hO 4 (by kernel_rfl)
        have hx : Below U.heap.size U w := hN 8 (by decide)
        obtain ⟨q0, _⟩ := row_one (HPB.out.step hx)
        obtain ⟨u1, _⟩ := row_one (HU1.out.step hx)
        obtain ⟨u2, _⟩ := row_one (HU2.out.step hx)
        have f4 := slot_at e4
        unfold execOp; go_simp) (fun ac w hG hN => rfl)
    · refine stepG_of rfl ?_
      exact stepR_value (t := 15) (.string m) rfl (fun _ => appT_other (by decide) (Below.refl _ _)) (fun ac w hG hN hO => by
        have e5 : slot ac 5 = .pointer (some ⟨w0.heap.size + 2, 0, none⟩) := hO 5 (by kernel_rfl)
        have hx : Below U.heap.size U w := hN 8 (by decide)
        obtain ⟨q0, _⟩ := row_one (HPB.out.step hx)
        obtain ⟨u1, _⟩ := row_one (HU1.out.step hx)
        obtain ⟨u2, _⟩ := row_one (HU2.out.step hx)
        have f5 := slot_at e5
        unfold execOp; go_simp) (fun ac w hG hN => rfl)
    · refine stepG_of rfl ?_
      intro ac wx hG hN hO
      have e13 : slot ac 13 = .pointer (some ⟨kb, 0, none⟩) := hN 1 (by decide)
      have e14 : slot ac 14 = .string n := hN 2 (by decide)
      have e15 : slot ac 15 = .string m := hN 3 (by decide)
      have hx : Below U.heap.size U wx := hN 8 (by decide)
      refine wp_callx 48 _ _ rfl (enters_of Try.func48 (by kernel_rfl) rfl) #[.pointer (some ⟨kb, 0, none⟩), .string n, .string m] (by simp [eval_slot, e13, e14, e15]) (R := fun v wz => v = .int .i64 (wrongR d n m) ∧ Below wx.heap.size wx wz) ((CW.out wx hx).mono fun e wz hz => ⟨_, hz.1, rfl, hz.2⟩) ?_
      rintro v wz ⟨hv, hb⟩
      exact ⟨v, rfl, appT_other (by decide) hb, trivial, hv⟩
    · refine stepG_of rfl ?_
      exact stepR_value (t := 17) (.func (.func 49) #[] #[.pointer (some ⟨w1.heap.size, 0, none⟩), .pointer (some ⟨w0.heap.size + 1, 0, none⟩), .pointer (some ⟨w0.heap.size + 2, 0, none⟩)]) rfl (fun _ => appT_other (by decide) (Below.refl _ _)) (fun ac w hG hN hO => by
        have e8 : slot ac 8 = .pointer (some ⟨w1.heap.size, 0, none⟩) := hO 8 (by kernel_rfl)
        have e4 : slot ac 4 = .pointer (some ⟨w0.heap.size + 1, 0, none⟩) := hO 4 (by kernel_rfl)
        have e5 : slot ac 5 = .pointer (some ⟨w0.heap.size + 2, 0, none⟩) := hO 5 (by kernel_rfl)
        have f8 := slot_at e8
        have f4 := slot_at e4
        have f5 := slot_at e5
        unfold execOp; go_simp) (fun ac w hG hN => rfl)
    · refine stepG_of rfl ?_
      intro ac wx hG hN hO
      have e12 : slot ac 12 = .pointer (some ⟨kb, 0, none⟩) := hN 0 (by decide)
      have e16 : slot ac 16 = .int .i64 (wrongR d n m) := hN 4 (by decide)
      have e17 : slot ac 17 = .func (.func 49) #[] #[.pointer (some ⟨w1.heap.size, 0, none⟩), .pointer (some ⟨w0.heap.size + 1, 0, none⟩), .pointer (some ⟨w0.heap.size + 2, 0, none⟩)] := hN 5 (by decide)
      have hx : Below U.heap.size U wx := hN 8 (by decide)
      refine wp_callx 36 _ _ rfl (enters_of Try.func36 (by kernel_rfl) rfl) #[.pointer (some ⟨kb, 0, none⟩), .int .i64 (wrongR d n m), .func (.func 49) #[] #[.pointer (some ⟨w1.heap.size, 0, none⟩), .pointer (some ⟨w0.heap.size + 1, 0, none⟩), .pointer (some ⟨w0.heap.size + 2, 0, none⟩)]] (by simp [eval_slot, e12, e16, e17]) (R := fun v wz => v = .int .i64 res.2 ∧ ActP res V kb w1.heap.size (w0.heap.size + 3) wz) ((CA.out wx hx).mono fun e wz hz => ?_) ?_
      · obtain ⟨v2, R2, h1, h2, h3, h4, h5⟩ := hz
        exact ⟨_, h1, rfl, v2, R2, h2, h3, h4, h5⟩
      rintro v wz ⟨hv, hb⟩
      exact ⟨v, rfl, appT_at trivial, trivial, hv, hb⟩
    · refine stepG_of rfl ?_
      intro ac w hG hN hO
      have e18 : slot ac 18 = .int .i64 res.2 ∧ ActP res V kb w1.heap.size (w0.heap.size + 3) w := hN 6 (by decide)
      exact wp_value (run_move_slot (v := slot ac 18) (.inr rfl) rfl) ⟨_, rfl, (fun _ => appT_other (by decide) (Below.refl _ _)) w, hG, e18⟩
  case behind =>
    intro ac w5 hG hV hS ha
    have h7 : slot ac 9 = .int .i64 res.2 ∧ ActP res V kb w1.heap.size (w0.heap.size + 3) w5 := hV 7 (by decide) (by decide)
    generalize slot ac = sl at ha h7
    subst ha
    simp only [patchL, List.contains_cons, List.contains_nil, Nat.reduceBEq, Bool.or_false, Bool.or_true, if_true, Bool.false_eq_true, if_false, Nat.reduceAdd]
    generalize sl 12 = s12
    generalize sl 13 = s13
    generalize sl 14 = s14
    generalize sl 15 = s15
    generalize sl 16 = s16
    generalize sl 17 = s17
    generalize sl 18 = s18
    generalize sl 9 = s9 at h7 ⊢
    clear hV hS
    obtain ⟨hv9, v3, R3, hM3, hb3, g1, g2⟩ := h7
    subst hv9
    obtain ⟨q0, _⟩ := row_one g1
    have HM3 := Lib.hid hM3; have HBE := Lib.hid hb3; have HR3 := Lib.hid g2
    clear hG hM3 hb3 g1 g2
    
    obtain ⟨m0, m1, m2, fm⟩ := HM3.out.cell
    obtain ⟨a3, n3, e3, hv3⟩ := HM3.out.own.len
    subst hv3
    have hrow := HR3.out
    obtain ⟨r0, r1, r2, fr⟩ : w5.cell? ⟨w0.heap.size + 3, 0, none⟩ = some (.slice none 0 0) ∧ w5.cell? ⟨w0.heap.size + 3, 1, none⟩ = some (.bool false) ∧ w5.cell? ⟨w0.heap.size + 3, 2, none⟩ = some (.int .i64 0) ∧ ∀ i, w5.frozen? ⟨w0.heap.size + 3, i, none⟩ = false := by
      have p0 := hrow.cell 0; have p1 := hrow.cell 1; have p2 := hrow.cell 2
      simp only [List.getElem?_toArray, List.getElem?_cons_zero, List.getElem?_cons_succ] at p0 p1 p2
      exact ⟨p0, p1, p2, fun i => hrow.free i⟩
    have HW4 : Hid (Row (((w5.setCell ⟨w0.heap.size + 3, 0, none⟩ (.slice a3 n3 e3)).setCell ⟨w0.heap.size + 3, 1, none⟩ (.bool res.1.off)).setCell ⟨w0.heap.size + 3, 2, none⟩ (.int .i64 res.1.fuse)) (w0.heap.size + 3) #[.slice a3 n3 e3, .bool res.1.off, .int .i64 res.1.fuse] 24) := Lib.hid (by have := ((hrow.set 0 (.slice a3 n3 e3)).set 1 (.bool res.1.off)).set 2 (.int .i64 res.1.fuse); exact this)
    have HD4 : Hid (IsDfs (((w5.setCell ⟨w0.heap.size + 3, 0, none⟩ (.slice a3 n3 e3)).setCell ⟨w0.heap.size + 3, 1, none⟩ (.bool res.1.off)).setCell ⟨w0.heap.size + 3, 2, none⟩ (.int .i64 res.1.fuse)) (.slice a3 n3 e3) res.1.fs ∧ Below w0.heap.size w0 (((w5.setCell ⟨w0.heap.size + 3, 0, none⟩ (.slice a3 n3 e3)).setCell ⟨w0.heap.size + 3, 1, none⟩ (.bool res.1.off)).setCell ⟨w0.heap.size + 3, 2, none⟩ (.int .i64 res.1.fuse))) := Lib.hid (by
      have hlo : w0.heap.size + 3 < V.heap.size := HB3.out.lt
      have t1 := ownD_set (i := 2) (u := .int .i64 res.1.fuse) (ownD_set (i := 1) (u := .bool res.1.off) (ownD_set (i := 0) (u := .slice a3 n3 e3) HM3.out.own hlo) hlo) hlo
      have hop : ∀ (i : Nat) (u : Value) (W : World) (y : Dfr) (x : Dfl), RowP V.heap.size W y x → RowP V.heap.size (W.setCell ⟨w0.heap.size + 3, i, none⟩ u) y x := fun i u W y x hx => ⟨hx.1, hx.2.1, hx.2.2.turned (grownBy_set_Dlh W _ i u) hlo⟩
      refine ⟨t1.is (HM3.out.rows.imp fun y x hx => (hop 2 _ _ _ _ (hop 1 _ _ _ _ (hop 0 _ _ _ _ hx))).f) (fun y x h => h), ?_⟩
      exact (((below_step HBV.out HBE.out).setCell (p := ⟨w0.heap.size + 3, 0, none⟩) (by simp) _).setCell (p := ⟨w0.heap.size + 3, 1, none⟩) (by simp) _).setCell (p := ⟨w0.heap.size + 3, 2, none⟩) (by simp) _)
    clear hrow
    have hks : kb ≠ w0.heap.size + 3 := fun e => by
      have g1 := HM3.out.from_; have g2 := HB3.out.lt
      omega
    go_wp2
    have r0' := HW4.out.cell 0; have r1' := HW4.out.cell 1; have r2' := HW4.out.cell 2
    simp only [List.getElem?_toArray, List.getElem?_cons_zero, List.getElem?_cons_succ] at r0' r1' r2'
    exact bodyPost_ret (v := .tuple #[dskV (.slice a3 n3 e3) res.1, .int .i64 res.2]) (by unfold dskV; simp [results, Try.results21, go_sem, r0', r1', r2']) rfl ⟨.slice a3 n3 e3, by rw [← HRES.out], by rw [← HRES.out]; exact HD4.out.1, HD4.out.2⟩
def dkremU (w0 w1 V U : World) (kb : Nat) (res : Dsk × Int) (d : Dsk) (n : ByteArray) : Nat → Value → Value → World → Prop
  | 0 => fun v _ _ => v = .pointer (some ⟨kb, 0, none⟩)
  | 1 => fun v _ _ => v = .pointer (some ⟨kb, 0, none⟩)
  | 2 => fun v _ _ => v = .string n
  | 3 => fun v _ _ => v = .int .i64 (missD d n)
  | 4 => fun v _ _ => v = .func (.func 52) #[] #[.pointer (some ⟨w1.heap.size, 0, none⟩), .pointer (some ⟨w0.heap.size + 1, 0, none⟩)]
  | 5 => fun v _ wz => v = .int .i64 res.2 ∧ ActP res V kb w1.heap.size (w0.heap.size + 2) wz
  | 6 => fun v _ wz => v = .int .i64 res.2 ∧ ActP res V kb w1.heap.size (w0.heap.size + 2) wz
  | 7 => fun _ _ wz => Below U.heap.size U wz
  | _ => fun _ _ _ => True
def dkremN : List (List Nat) := [[7], [7], [7], [1, 2, 7], [], [0, 3, 4, 7], [5]]
def dkremE : Nat → Option Tmp
  | _ => none
def dkremB : List (Nat × Nat) := [(5, 6), (5, 7)]
theorem dkrem_T (w0 w1 V U : World) (kb : Nat) (res : Dsk × Int) (d : Dsk) (n : ByteArray) (ix kx : Nat) (v e : Value) (w w' : World) (hk : kx < 8) (hne : kx ≠ ix) (hbd : (ix, kx) ∉ dkremB) (hU : (dkremU w0 w1 V U kb res d n) kx v e w) (hT : (appT 5 (fun _ _ => True)) ix w w') : (dkremU w0 w1 V U kb res d n) kx v e w' := by
  by_cases hi5 : ix = 5
  · subst hi5
    have hR := appT_in hT
    rcases (show kx = 0 ∨ kx = 1 ∨ kx = 2 ∨ kx = 3 ∨ kx = 4 ∨ kx = 5 ∨ kx = 6 ∨ kx = 7 by omega) with rfl | rfl | rfl | rfl | rfl | rfl | rfl | rfl
    iterate 5 exact hU
    · exact absurd rfl hne
    · exact absurd (by decide) hbd
    · exact absurd (by decide) hbd
  have hb : Below w.heap.size w w' := appT_out hi5 hT
  rcases (show kx = 0 ∨ kx = 1 ∨ kx = 2 ∨ kx = 3 ∨ kx = 4 ∨ kx = 5 ∨ kx = 6 ∨ kx = 7 by omega) with rfl | rfl | rfl | rfl | rfl | rfl | rfl | rfl
  iterate 5 exact hU
  · exact ⟨hU.1, ActP.stays hU.2 hb⟩
  · exact ⟨hU.1, ActP.stays hU.2 hb⟩
  · exact below_step hU hb
set_option maxRecDepth 100000 in
set_option maxHeartbeats 8000000 in
theorem pRemove_any (d : Dsk) (v0 : Value) (n : ByteArray) (w0 : World) (h : IsDfs w0 v0 d.fs) (hf : FitD nameB d) :
    Calls Try.prog 23 #[dskV v0 d, .string n] w0 (RetD (removeD d n) w0) := by
  have hr := hf.rise; have hl8 := hf.many
  have ho : ∀ f ∈ d.fs, f.ops.length ≤ 1000 := fun f hm => Nat.le_trans (hf.files f hm).many (by decide)
  obtain ⟨_, a, cap, hu, _, _⟩ := id h
  obtain ⟨z, hz⟩ : ∃ z, z = d.fs.length := ⟨_, rfl⟩
  rw [← hz] at hu
  subst hu
  obtain ⟨V, hV⟩ : ∃ V, V = (((w0.alloc (.cells #[.slice a z cap, .bool d.off, .int .i64 d.fuse] 24)).alloc (.cells #[.string n] 9)).alloc (.cells #[.slice none 0 0, .bool false, .int .i64 0] 24)) := ⟨_, rfl⟩
  have hbV : Below w0.heap.size w0 V := by rw [hV]; exact (((Below.refl _ _).alloc (by simp) _).alloc (by simp) _).alloc (by simp; try omega) _
  have hB0 : Row V (w0.heap.size) #[.slice a z cap, .bool d.off, .int .i64 d.fuse] 24 := by
    have h0 := Row.made w0 #[.slice a z cap, .bool d.off, .int .i64 d.fuse] 24
    have hs : w0.heap.size = w0.heap.size := by simp
    rw [hs] at h0
    rw [hV]; exact ((h0).alloc _).alloc _
  have hB1 : Row V (w0.heap.size + 1) #[.string n] 9 := by
    have h0 := Row.made (w0.alloc (.cells #[.slice a z cap, .bool d.off, .int .i64 d.fuse] 24)) #[.string n] 9
    have hs : (w0.alloc (.cells #[.slice a z cap, .bool d.off, .int .i64 d.fuse] 24)).heap.size = w0.heap.size + 1 := by simp
    rw [hs] at h0
    rw [hV]; exact (h0).alloc _
  have hB2 : Row V (w0.heap.size + 2) #[.slice none 0 0, .bool false, .int .i64 0] 24 := by
    have h0 := Row.made ((w0.alloc (.cells #[.slice a z cap, .bool d.off, .int .i64 d.fuse] 24)).alloc (.cells #[.string n] 9)) #[.slice none 0 0, .bool false, .int .i64 0] 24
    have hs : ((w0.alloc (.cells #[.slice a z cap, .bool d.off, .int .i64 d.fuse] 24)).alloc (.cells #[.string n] 9)).heap.size = w0.heap.size + 2 := by simp
    rw [hs] at h0
    rw [hV]; exact h0
  have CM := Lib.hid (newMachine_any d (.slice a z cap) V (h.stays hbV) (by omega) ho)
  have HV := Lib.hid hV; have HBV := Lib.hid hbV; have HF := Lib.hid hf
  have HB0 := Lib.hid hB0
  have HB1 := Lib.hid hB1
  have HB2 := Lib.hid hB2
  have HDO := Lib.hid ho
  obtain ⟨c0, c1, c2⟩ : V.cell? ⟨w0.heap.size, 0, none⟩ = some (.slice a z cap) ∧ V.cell? ⟨w0.heap.size, 1, none⟩ = some (.bool d.off) ∧ V.cell? ⟨w0.heap.size, 2, none⟩ = some (.int .i64 d.fuse) := by
    have p0 := hB0.cell 0; have p1 := hB0.cell 1; have p2 := hB0.cell 2
    simp only [List.getElem?_toArray, List.getElem?_cons_zero, List.getElem?_cons_succ] at p0 p1 p2
    exact ⟨p0, p1, p2⟩
  have HSP := Lib.hid (removeD_act d n)
  clear hV hbV h hz ho hf hB0 hB1 hB2
  unfold dskV
  go_enter Try.func23, Try.ntmps23
  go_wp2_with fail
  rw [← HV.out]
  go_wp2_with fail
  refine CM.out.mono ?_
  rintro e w1 ⟨kb, v, R, rfl, hM, hb1⟩
  obtain ⟨U, hU⟩ : ∃ U, U = w1.alloc (.cells #[.pointer (some ⟨kb, 0, none⟩)] 62) := ⟨_, rfl⟩
  have hbU : Below w1.heap.size w1 U := by rw [hU]; exact (Below.refl _ _).alloc (Nat.le_refl _) _
  have hPB : Row U w1.heap.size #[.pointer (some ⟨kb, 0, none⟩)] 62 := by rw [hU]; exact Row.made _ _ _
  have hbVU := below_step hb1 hbU
  have HM := Lib.hid (hM.stays hbU); have HPB := Lib.hid hPB; have HU := Lib.hid hU; have HBU := Lib.hid hbVU
  have HU1 := Lib.hid (HB1.out.step hbVU)
  have HU2 := Lib.hid (HB2.out.step hbVU)
  have hVU : V.heap.size ≤ U.heap.size := hbVU.size
  obtain ⟨u1, _⟩ := row_one HU1.out
  obtain ⟨q0, _⟩ := row_one hPB
  have CW : Hid (∀ W, Below U.heap.size U W → Calls Try.prog 43 #[.pointer (some ⟨kb, 0, none⟩), .string n] W fun e w' => e = .returned (.int .i64 (missD d n)) ∧ Below W.heap.size W w') := Lib.hid fun W hW => by
    refine (missing_any n W (HM.out.stays hW) hr (by omega)).mono ?_
    rintro e w' ⟨rfl, hb⟩
    exact ⟨rfl, hb⟩
  have CA : Hid (∀ W, Below U.heap.size U W → Calls Try.prog 36 #[.pointer (some ⟨kb, 0, none⟩), .int .i64 (missD d n), .func (.func 52) #[] #[.pointer (some ⟨w1.heap.size, 0, none⟩), .pointer (some ⟨w0.heap.size + 1, 0, none⟩)]] W fun e w' => ∃ v2 R2, e = .returned (.int .i64 (actD d (missD d n) (lessF d.fs n.data.toList)).2) ∧ Mch V.heap.size kb w' v2 R2 (actD d (missD d n) (lessF d.fs n.data.toList)).1 ∧ Below V.heap.size V w' ∧ Row w' w1.heap.size #[.pointer (some ⟨kb, 0, none⟩)] 62 ∧ Row w' (w0.heap.size + 2) #[.slice none 0 0, .bool false, .int .i64 0] 24) := Lib.hid fun W hW => by
    have hVW : V.heap.size ≤ W.heap.size := Nat.le_trans hVU hW.size
    refine (act_any V.heap.size kb v R d (missD d n) 52 _ (lessF d.fs n.data.toList) (enters_of Try.func52 (by kernel_rfl) rfl) W (HM.out.stays hW) hVW HF.out.lo HF.out.hi ?_).mono ?_
    · intro hw hoff W2 f2 hk hB2 hM2
      have hkk := fun {b : Nat} {xs : Array Value} {Ty : TypeId} (g1 : Ty ≠ 57) (g2 : Ty ≠ 47) (g3 : Ty ≠ 52) (g : Row U b xs Ty) => hk b xs Ty g1 g2 g3 (g.step hW)
      exact remove1_any (d := ⟨d.fs, false, f2⟩) W2 (hkk (by decide) (by decide) (by decide) HPB.out) (hkk (by decide) (by decide) (by decide) HU1.out) hM2 hB2 hr (by show d.fs.length ≤ 1000; omega)
    · rintro e w' ⟨v2, R2, rfl, g1, g2, g3⟩
      exact ⟨v2, R2, rfl, g1, HBU.out.trans ((hW.mono hVU).trans g2), g3 _ _ _ (by decide) (by decide) (by decide) (HPB.out.step hW), g3 _ _ _ (by decide) (by decide) (by decide) (HU2.out.step hW)⟩
  rw [← HSP.out] at CA
  obtain ⟨res, hres⟩ : ∃ r, r = removeD d n := ⟨_, rfl⟩
  rw [← hres] at CA
  have HRES := Lib.hid hres
  clear c0 c1 c2 hM hb1 hbU hPB hU hbVU hres HSP
  go_wp2_with fail
  rw [← HU.out]
  go_wp2_with fail
  clear q0 u1
  refine wp_region_wordsG (by kernel_rfl) (by kernel_rfl) (appT 5 (fun _ _ => True)) (fun _ => True) dkremE (dkremU w0 w1 V U kb res d n) 8 dkremN [6] (by kernel_rfl) (by kernel_rfl) (by kernel_rfl)
    dkremB (by kernel_rfl) (fun ix kx v e w w' hi hk hne hb hU hT => dkrem_T _ _ _ _ _ _ _ _  ix kx v e w w' hk hne hb hU hT) (by decide) trivial (fun kx hk hge => ?hv0)
    [10, 11, 12, 13, 14, 15, 7] (by kernel_rfl) (forall_ops ?steps) ?behind
  case hv0 =>
    have hge' : 7 ≤ kx := hge
    rcases (show kx = 7 by omega) with rfl
    · exact (Below.refl _ _).drew
  case steps =>
    refine ⟨?_, ?_, ?_, ?_, ?_, ?_, ?_, trivial⟩
    · refine stepG_of rfl ?_
      exact stepR_value (t := 10) (.pointer (some ⟨kb, 0, none⟩)) rfl (fun _ => appT_other (by decide) (Below.refl _ _)) (fun ac w hG hN hO => by
        have e6 : slot ac 6 = .pointer (some ⟨w1.heap.size, 0, none⟩) := hO 6 (by kernel_rfl)
        have hx : Below U.heap.size U w := hN 7 (by decide)
        obtain ⟨q0, _⟩ := row_one (HPB.out.step hx)
        obtain ⟨u1, _⟩ := row_one (HU1.out.step hx)
        have f6 := slot_at e6
        unfold execOp; go_simp) (fun ac w hG hN => rfl)
    · refine stepG_of rfl ?_
      exact stepR_value (t := 11) (.pointer (some ⟨kb, 0, none⟩)) rfl (fun _ => appT_other (by decide) (Below.refl _ _)) (fun ac w hG hN hO => by
        have e6 : slot ac 6 = .pointer (some ⟨w1.heap.size, 0, none⟩) := hO 6 (by kernel_rfl)
        have hx : Below U.heap.size U w := hN 7 (by decide)
        obtain ⟨q0, _⟩ := row_one (HPB.out.step hx)
        obtain ⟨u1, _⟩ := row_one (HU1.out.step hx)
        have f6 := slot_at e6
        unfold execOp; go_simp) (fun ac w hG hN => rfl)
    · refine stepG_of rfl ?_
      exact stepR_value (t := 12) (.string n) rfl (fun _ => appT_other (by decide) (Below.refl _ _)) (fun ac w hG hN hO => by
        have e3 : slot ac 3 = .pointer (some ⟨w0.heap.size + 1, 0, none⟩) := hO 3 (by kernel_rfl)
        have hx : Below U.heap.size U w := hN 7 (by decide)
        obtain ⟨q0, _⟩ := row_one (HPB.out.step hx)
        obtain ⟨u1, _⟩ := row_one (HU1.out.step hx)
        have f3 := slot_at e3
        unfold execOp; go_simp) (fun ac w hG hN => rfl)
    · refine stepG_of rfl ?_
      intro ac wx hG hN hO
      have e11 : slot ac 11 = .pointer (some ⟨kb, 0, none⟩) := hN 1 (by decide)
      have e12 : slot ac 12 = .string n := hN 2 (by decide)
      have hx : Below U.heap.size U wx := hN 7 (by decide)
      refine wp_callx 43 _ _ rfl (enters_of Try.func43 (by kernel_rfl) rfl) #[.pointer (some ⟨kb, 0, none⟩), .string n] (by simp [eval_slot, e11, e12]) (R := fun v wz => v = .int .i64 (missD d n) ∧ Below wx.heap.size wx wz) ((CW.out wx hx).mono fun e wz hz => ⟨_, hz.1, rfl, hz.2⟩) ?_
      rintro v wz ⟨hv, hb⟩
      exact ⟨v, rfl, appT_other (by decide) hb, trivial, hv⟩
    · refine stepG_of rfl ?_
      exact stepR_value (t := 14) (.func (.func 52) #[] #[.pointer (some ⟨w1.heap.size, 0, none⟩), .pointer (some ⟨w0.heap.size + 1, 0, none⟩)]) rfl (fun _ => appT_other (by decide) (Below.refl _ _)) (fun ac w hG hN hO => by
        have e6 : slot ac 6 = .pointer (some ⟨w1.heap.size, 0, none⟩) := hO 6 (by kernel_rfl)
        have e3 : slot ac 3 = .pointer (some ⟨w0.heap.size + 1, 0, none⟩) := hO 3 (by kernel_rfl)
        have f6 := slot_at e6
        have f3 := slot_at e3
        unfold execOp; go_simp) (fun ac w hG hN => rfl)
    · refine stepG_of rfl ?_
      intro ac wx hG hN hO
      have e10 : slot ac 10 = .pointer (some ⟨kb, 0, none⟩) := hN 0 (by decide)
      have e13 : slot ac 13 = .int .i64 (missD d n) := hN 3 (by decide)
      have e14 : slot ac 14 = .func (.func 52) #[] #[.pointer (some ⟨w1.heap.size, 0, none⟩), .pointer (some ⟨w0.heap.size + 1, 0, none⟩)] := hN 4 (by decide)
      have hx : Below U.heap.size U wx := hN 7 (by decide)
      refine wp_callx 36 _ _ rfl (enters_of Try.func36 (by kernel_rfl) rfl) #[.pointer (some ⟨kb, 0, none⟩), .int .i64 (missD d n), .func (.func 52) #[] #[.pointer (some ⟨w1.heap.size, 0, none⟩), .pointer (some ⟨w0.heap.size + 1, 0, none⟩)]] (by simp [eval_slot, e10, e13, e14]) (R := fun v wz => v = .int .i64 res.2 ∧ ActP res V kb w1.heap.size (w0.heap.size + 2) wz) ((CA.out wx hx).mono fun e wz hz => ?_) ?_
      · obtain ⟨v2, R2, h1, h2, h3, h4, h5⟩ := hz
        exact ⟨_, h1, rfl, v2, R2, h2, h3, h4, h5⟩
      rintro v wz ⟨hv, hb⟩
      exact ⟨v, rfl, appT_at trivial, trivial, hv, hb⟩
    · refine stepG_of rfl ?_
      intro ac w hG hN hO
      have e15 : slot ac 15 = .int .i64 res.2 ∧ ActP res V kb w1.heap.size (w0.heap.size + 2) w := hN 5 (by decide)
      exact wp_value (run_move_slot (v := slot ac 15) (.inr rfl) rfl) ⟨_, rfl, (fun _ => appT_other (by decide) (Below.refl _ _)) w, hG, e15⟩
  case behind =>
    intro ac w5 hG hV hS ha
    have h6 : slot ac 7 = .int .i64 res.2 ∧ ActP res V kb w1.heap.size (w0.heap.size + 2) w5 := hV 6 (by decide) (by decide)
    generalize slot ac = sl at ha h6
    subst ha
    simp only [patchL, List.contains_cons, List.contains_nil, Nat.reduceBEq, Bool.or_false, Bool.or_true, if_true, Bool.false_eq_true, if_false, Nat.reduceAdd]
    generalize sl 10 = s10
    generalize sl 11 = s11
    generalize sl 12 = s12
    generalize sl 13 = s13
    generalize sl 14 = s14
    generalize sl 15 = s15
    generalize sl 7 = s7 at h6 ⊢
    clear hV hS
    obtain ⟨hv9, v3, R3, hM3, hb3, g1, g2⟩ := h6
    subst hv9
    obtain ⟨q0, _⟩ := row_one g1
    have HM3 := Lib.hid hM3; have HBE := Lib.hid hb3; have HR3 := Lib.hid g2
    clear hG hM3 hb3 g1 g2
    
    obtain ⟨m0, m1, m2, fm⟩ := HM3.out.cell
    obtain ⟨a3, n3, e3, hv3⟩ := HM3.out.own.len
    subst hv3
    have hrow := HR3.out
    obtain ⟨r0, r1, r2, fr⟩ : w5.cell? ⟨w0.heap.size + 2, 0, none⟩ = some (.slice none 0 0) ∧ w5.cell? ⟨w0.heap.size + 2, 1, none⟩ = some (.bool false) ∧ w5.cell? ⟨w0.heap.size + 2, 2, none⟩ = some (.int .i64 0) ∧ ∀ i, w5.frozen? ⟨w0.heap.size + 2, i, none⟩ = false := by
      have p0 := hrow.cell 0; have p1 := hrow.cell 1; have p2 := hrow.cell 2
      simp only [List.getElem?_toArray, List.getElem?_cons_zero, List.getElem?_cons_succ] at p0 p1 p2
      exact ⟨p0, p1, p2, fun i => hrow.free i⟩
    have HW4 : Hid (Row (((w5.setCell ⟨w0.heap.size + 2, 0, none⟩ (.slice a3 n3 e3)).setCell ⟨w0.heap.size + 2, 1, none⟩ (.bool res.1.off)).setCell ⟨w0.heap.size + 2, 2, none⟩ (.int .i64 res.1.fuse)) (w0.heap.size + 2) #[.slice a3 n3 e3, .bool res.1.off, .int .i64 res.1.fuse] 24) := Lib.hid (by have := ((hrow.set 0 (.slice a3 n3 e3)).set 1 (.bool res.1.off)).set 2 (.int .i64 res.1.fuse); exact this)
    have HD4 : Hid (IsDfs (((w5.setCell ⟨w0.heap.size + 2, 0, none⟩ (.slice a3 n3 e3)).setCell ⟨w0.heap.size + 2, 1, none⟩ (.bool res.1.off)).setCell ⟨w0.heap.size + 2, 2, none⟩ (.int .i64 res.1.fuse)) (.slice a3 n3 e3) res.1.fs ∧ Below w0.heap.size w0 (((w5.setCell ⟨w0.heap.size + 2, 0, none⟩ (.slice a3 n3 e3)).setCell ⟨w0.heap.size + 2, 1, none⟩ (.bool res.1.off)).setCell ⟨w0.heap.size + 2, 2, none⟩ (.int .i64 res.1.fuse))) := Lib.hid (by
      have hlo : w0.heap.size + 2 < V.heap.size := HB2.out.lt
      have t1 := ownD_set (i := 2) (u := .int .i64 res.1.fuse) (ownD_set (i := 1) (u := .bool res.1.off) (ownD_set (i := 0) (u := .slice a3 n3 e3) HM3.out.own hlo) hlo) hlo
      have hop : ∀ (i : Nat) (u : Value) (W : World) (y : Dfr) (x : Dfl), RowP V.heap.size W y x → RowP V.heap.size (W.setCell ⟨w0.heap.size + 2, i, none⟩ u) y x := fun i u W y x hx => ⟨hx.1, hx.2.1, hx.2.2.turned (grownBy_set_Dlh W _ i u) hlo⟩
      refine ⟨t1.is (HM3.out.rows.imp fun y x hx => (hop 2 _ _ _ _ (hop 1 _ _ _ _ (hop 0 _ _ _ _ hx))).f) (fun y x h => h), ?_⟩
      exact (((below_step HBV.out HBE.out).setCell (p := ⟨w0.heap.size + 2, 0, none⟩) (by simp) _).setCell (p := ⟨w0.heap.size + 2, 1, none⟩) (by simp) _).setCell (p := ⟨w0.heap.size + 2, 2, none⟩) (by simp) _)
    clear hrow
    have hks : kb ≠ w0.heap.size + 2 := fun e => by
      have g1 := HM3.out.from_; have g2 := HB2.out.lt
      omega
    go_wp2
    have r0' := HW4.out.cell 0; have r1' := HW4.out.cell 1; have r2' := HW4.out.cell 2
    simp only [List.getElem?_toArray, List.getElem?_cons_zero, List.getElem?_cons_succ] at r0' r1' r2'
    exact bodyPost_ret (v := .tuple #[dskV (.slice a3 n3 e3) res.1, .int .i64 res.2]) (by unfold dskV; simp [results, Try.results23, go_sem, r0', r1', r2']) rfl ⟨.slice a3 n3 e3, by rw [← HRES.out], by rw [← HRES.out]; exact HD4.out.1, HD4.out.2⟩
end Go.Proofs.Ytninfmlemdnjbaa

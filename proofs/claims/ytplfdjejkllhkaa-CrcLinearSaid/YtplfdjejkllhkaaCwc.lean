/-
  Layer 2: the statement CrcLinear as a walk over this translation.
-/
import Derived.Test.YtplfdjejkllhkaaCwa
import Derived.Test.YtplfdjejkllhkaaCwe
import Derived.Test.YtplfdjejkllhkaaLft
import Derived.Deep.AppendLies
import Derived.Lib.QuietBelow
import Derived.Deep.QuietTactic
import Derived.BigQuiet
set_option linter.unusedVariables false
namespace Go.Proofs.Ytplfdjejkllhkaa
open Go.RowKit

abbrev Tri := UInt8 × UInt8 × UInt8
/-- A slice of arrays of three bytes that reads as a list. -/
def IsTris (w : World) (v : Value) (l : List Tri) : Prop :=
  ∃ (a : Option Addr) (cap : Nat), v = .slice a l.length cap ∧ (0 < l.length → ∃ b off, a = some ⟨b, off, none⟩ ∧ b < w.heap.size ∧
    ∀ i (h : i < l.length), w.cell? ⟨b, off + i * 3, none⟩ = some (.int .u8 l[i].1.toNat) ∧ w.cell? ⟨b, off + i * 3 + 1, none⟩ = some (.int .u8 l[i].2.1.toNat) ∧ w.cell? ⟨b, off + i * 3 + 2, none⟩ = some (.int .u8 l[i].2.2.toNat))

def tri3 (t : Tri) : UInt8 := t.1 ^^^ t.2.1 ^^^ t.2.2
def cellsOn (f : Tri → UInt8) (l : List Tri) : List Value := l.map fun t => .int .u8 (f t).toNat
def Apart (v v' : Value) : Prop := ∀ g, v.ownBlock = some g → v'.ownBlock ≠ some g
structure LinRel (w0 : World) (l : List Tri) (k : Nat) (va vb vc vd : Value) (w : World) : Prop where
  below : RowKit.Below w0.heap.size w0 w
  ra : w.ownsRow w0.heap.size 5 1 va k (cellsOn (·.1) (l.take k))
  rb : w.ownsRow w0.heap.size 5 1 vb k (cellsOn (·.2.1) (l.take k))
  rc : w.ownsRow w0.heap.size 5 1 vc k (cellsOn (·.2.2) (l.take k))
  rd : w.ownsRow w0.heap.size 5 1 vd k (cellsOn tri3 (l.take k))
  ab : Apart va vb
  ac : Apart va vc
  ad : Apart va vd
  bc : Apart vb vc
  bd : Apart vb vd
  cd : Apart vc vd
theorem Apart.symm {v v' : Value} (h : Apart v v') : Apart v' v := fun g h1 h2 => h g h2 h1

theorem sep_new {c : LinCtx} {w : World} {v v' : Value} {o : Value} {g gap : Nat} {xs : List Value} (hr : RowAt c v.ownBlock xs o w) (hlt : ∀ g, v.ownBlock = some g → g < c.bx ∧ v'.ownBlock ≠ some g) (hlt' : ∀ g, v'.ownBlock = some g → g < c.bx) (hg : v'.ownBlock = some g ∨ g = w.heap.size) : ∀ cap n, (Value.slice (some ⟨g, 0, none⟩) n cap).ownBlock ≠ o.ownBlock := by
  intro cap n
  obtain ⟨g', cap', rfl, h2, h3⟩ := hr
  intro e
  have e' : g = g' := by simpa [Value.ownBlock] using e
  subst e'
  have hl := (h2.lt g rfl).2
  rcases hg with hg | hg
  · rcases h3 with h3 | h3
    · exact (hlt g h3).2 hg
    · have := hlt' g hg; omega
  · omega
theorem rowAt_mk {c : LinCtx} {w w' : World} (hG : linG c w) {v s : Value} {g cap : Nat} {xs : List Value} (hs : s = .slice (some ⟨g, 0, none⟩) (c.k + 1) cap) (hown : w'.ownsRow c.w0.heap.size 5 1 s (c.k + 1) xs) (hg : v.ownBlock = some g ∨ g = w.heap.size) : RowAt c v.ownBlock xs s w' :=
  ⟨g, cap, hs, hown, hg.imp (fun h => h) fun h => by rw [h]; exact hG.size⟩

theorem linA {c : LinCtx} (ok : LinOk c) : ∀ a w a' w' g cap, (∀ k ∈ linNeeds 4, linV c k a w) → linG c w → (∀ t, t ≠ 23 → slot a' t = slot a t) → slot a' 23 = .slice (some ⟨g, 0, none⟩) (c.k + 1) cap → w'.ownsRow c.w0.heap.size 5 1 (slot a' 23) (c.k + 1) (c.xa ++ [.int .u8 c.x0]) → (c.va.ownBlock = some g ∨ g = w.heap.size) → linT c 4 w w' → linV c 4 a' w' :=
  fun a w a' w' g cap hN hG ho hs hown hg hT => rowAt_mk hG hs hown hg
theorem linB {c : LinCtx} (ok : LinOk c) : ∀ a w a' w' g cap, (∀ k ∈ linNeeds 9, linV c k a w) → linG c w → (∀ t, t ≠ 28 → slot a' t = slot a t) → slot a' 28 = .slice (some ⟨g, 0, none⟩) (c.k + 1) cap → w'.ownsRow c.w0.heap.size 5 1 (slot a' 28) (c.k + 1) (c.xb ++ [.int .u8 c.x1]) → (c.vb.ownBlock = some g ∨ g = w.heap.size) → linT c 9 w w' → linV c 9 a' w' :=
  fun a w a' w' g cap hN hG ho hs hown hg hT => ⟨rowAt_mk hG hs hown hg, by
    rw [hs, ho 23 (by decide)]
    exact sep_new (gap := 0) (hN 4 (by decide)) (fun g h => ⟨(ok.pa g h).2.1, (ok.pa g h).2.2.1⟩) (fun g h => (ok.pb g h).2.1) hg _ _⟩
theorem linC {c : LinCtx} (ok : LinOk c) : ∀ a w a' w' g cap, (∀ k ∈ linNeeds 14, linV c k a w) → linG c w → (∀ t, t ≠ 33 → slot a' t = slot a t) → slot a' 33 = .slice (some ⟨g, 0, none⟩) (c.k + 1) cap → w'.ownsRow c.w0.heap.size 5 1 (slot a' 33) (c.k + 1) (c.xc ++ [.int .u8 c.x2]) → (c.vc.ownBlock = some g ∨ g = w.heap.size) → linT c 14 w w' → linV c 14 a' w' :=
  fun a w a' w' g cap hN hG ho hs hown hg hT => ⟨rowAt_mk hG hs hown hg, by
    rw [hs, ho 23 (by decide)]
    exact sep_new (gap := 0) (hN 4 (by decide)) (fun g h => ⟨(ok.pa g h).2.1, (ok.pa g h).2.2.2.1⟩) (fun g h => (ok.pc g h).2.1) hg _ _, by
    rw [hs, ho 28 (by decide)]
    exact sep_new (gap := 0) (show linV c 9 a w from hN 9 (by decide)).1 (fun g h => ⟨(ok.pb g h).2.1, (ok.pb g h).2.2.2.1⟩) (fun g h => (ok.pc g h).2.1) hg _ _⟩
theorem linD {c : LinCtx} (ok : LinOk c) : ∀ a w a' w' g cap, (∀ k ∈ linNeeds 25, linV c k a w) → linG c w → (∀ t, t ≠ 44 → slot a' t = slot a t) → slot a' 44 = .slice (some ⟨g, 0, none⟩) (c.k + 1) cap → w'.ownsRow c.w0.heap.size 5 1 (slot a' 44) (c.k + 1) (c.xd ++ [.int .u8 c.x3]) → (c.vd.ownBlock = some g ∨ g = w.heap.size) → linT c 25 w w' → linV c 25 a' w' :=
  fun a w a' w' g cap hN hG ho hs hown hg hT => ⟨rowAt_mk hG hs hown hg, by
    rw [hs, ho 23 (by decide)]
    exact sep_new (gap := 0) (hN 4 (by decide)) (fun g h => ⟨(ok.pa g h).2.1, (ok.pa g h).2.2.2.2⟩) (fun g h => (ok.pd g h).2.1) hg _ _, by
    rw [hs, ho 28 (by decide)]
    exact sep_new (gap := 0) (show linV c 9 a w from hN 9 (by decide)).1 (fun g h => ⟨(ok.pb g h).2.1, (ok.pb g h).2.2.2.2⟩) (fun g h => (ok.pd g h).2.1) hg _ _, by
    rw [hs, ho 33 (by decide)]
    exact sep_new (gap := 0) (show linV c 14 a w from hN 14 (by decide)).1 (fun g h => ⟨(ok.pc g h).2.1, (ok.pc g h).2.2.2.2⟩) (fun g h => (ok.pd g h).2.1) hg _ _⟩
theorem lin_assign {c : LinCtx} {a0 : Act} {ops : Array Oper} {Q : Exit → Act → World → Prop} {i : Nat} {s d : Tmp} {o : Oper} (ho : o.op = .assign (.tmp s)) (hd : o.dst = some d) (hne : d ≠ s) (hsz : d < a0.tmps.size) (hV : ∀ a w, slot a d = slot a s → linV c i a w) : LinStep c a0 ops Q i o := by
  intro a w hG hN hO hS
  refine wp_value (v := slot a s) (w' := w) ?_ ⟨_, rfl, T_refl c i w, hG, hV _ _ ?_⟩
  · have e : a.eval (.tmp s) = slot a s := rfl
    simp [execOp, ho, e]
  · rw [hd, slot_put_same _ _ _ (by rw [hS]; exact hsz), slot_put_other _ _ _ _ (fun e => hne (by cases e; rfl))]
theorem apart_nil (v : Value) : Apart (.slice none 0 0) v := fun g h => by cases h
theorem rel_start (l : List Tri) (w : World) : LinRel w l 0 (.slice none 0 0) (.slice none 0 0) (.slice none 0 0) (.slice none 0 0) w :=
  ⟨RowKit.Below.refl _ _, World.ownsRow_nil _ _ _ _, World.ownsRow_nil _ _ _ _, World.ownsRow_nil _ _ _ _, World.ownsRow_nil _ _ _ _, apart_nil _, apart_nil _, apart_nil _, apart_nil _, apart_nil _, apart_nil _⟩
theorem cellsOn_snoc (f : Tri → UInt8) (l : List Tri) (k : Nat) (h : k < l.length) : cellsOn f (l.take k) ++ [.int .u8 (f l[k]).toNat] = cellsOn f (l.take (k + 1)) := by
  rw [List.take_succ_eq_append_getElem h]; unfold cellsOn; rw [List.map_append]; rfl
theorem tri3_bits (t : Tri) : bits .xor .u8 (bits .xor .u8 (t.1.toNat : Int) (t.2.1.toNat : Int)) (t.2.2.toNat : Int) = ((tri3 t).toNat : Int) := by
  rw [u8_xor_nat _ _ t.1.toNat_lt t.2.1.toNat_lt, u8_xor_nat _ _ (Nat.xor_lt_two_pow (n := 8) t.1.toNat_lt t.2.1.toNat_lt) t.2.2.toNat_lt]
  simp [tri3]

def linCtx (w0 : World) (bx : Nat) (l : List Tri) (k : Nat) (h : k < l.length) (va vb vc vd : Value) : LinCtx :=
  ⟨w0, bx, va, vb, vc, vd, k, cellsOn (·.1) (l.take k), cellsOn (·.2.1) (l.take k), cellsOn (·.2.2) (l.take k), cellsOn tri3 (l.take k), l[k].1.toNat, l[k].2.1.toNat, l[k].2.2.toNat, (tri3 l[k]).toNat⟩
theorem linOk {w0 w : World} {l : List Tri} {k : Nat} (h : k < l.length) (h5 : l.length ≤ 500) {va vb vc vd : Value} (R : LinRel w0 l k va vb vc vd w) : LinOk (linCtx w0 w.heap.size l k h va vb vc vd) :=
  ⟨R.below.size, fun g hg => ⟨(R.ra.lt g hg).1, (R.ra.lt g hg).2, R.ab g hg, R.ac g hg, R.ad g hg⟩, fun g hg => ⟨(R.rb.lt g hg).1, (R.rb.lt g hg).2, R.ab.symm g hg, R.bc g hg, R.bd g hg⟩,
    fun g hg => ⟨(R.rc.lt g hg).1, (R.rc.lt g hg).2, R.ac.symm g hg, R.bc.symm g hg, R.cd g hg⟩, fun g hg => ⟨(R.rd.lt g hg).1, (R.rd.lt g hg).2, R.ad.symm g hg, R.bd.symm g hg, R.cd.symm g hg⟩, tri3_bits _, by show k < 1000000; omega⟩
theorem apart_of {v v' : Value} (h : v.ownBlock ≠ v'.ownBlock) : Apart v' v := fun g h1 h2 => h (h2.trans h1.symm)
theorem rel_next {w0 : World} {bx : Nat} {l : List Tri} {k : Nat} (h : k < l.length) {va vb vc vd : Value} {a : Act} {w : World} (hG : linG (linCtx w0 bx l k h va vb vc vd) w) (hV : ∀ j ∈ linLast, j < 34 → linV (linCtx w0 bx l k h va vb vc vd) j a w) :
    LinRel w0 l (k + 1) (slot a 3) (slot a 4) (slot a 5) (slot a 6) w := by
  have e3 : slot a 3 = slot a 23 := hV 26 (by decide) (by decide)
  have e4 : slot a 4 = slot a 28 := hV 27 (by decide) (by decide)
  have e5 : slot a 5 = slot a 33 := hV 28 (by decide) (by decide)
  have e6 : slot a 6 = slot a 44 := hV 29 (by decide) (by decide)
  have vA : linV (linCtx w0 bx l k h va vb vc vd) 4 a w := hV 4 (by decide) (by decide)
  obtain ⟨vB, sB⟩ : linV (linCtx w0 bx l k h va vb vc vd) 9 a w := hV 9 (by decide) (by decide)
  obtain ⟨vC, sC1, sC2⟩ : linV (linCtx w0 bx l k h va vb vc vd) 14 a w := hV 14 (by decide) (by decide)
  obtain ⟨vD, sD1, sD2, sD3⟩ : linV (linCtx w0 bx l k h va vb vc vd) 25 a w := hV 25 (by decide) (by decide)
  rw [e3, e4, e5, e6]
  obtain ⟨_, _, _, rA, _⟩ := vA
  obtain ⟨_, _, _, rB, _⟩ := vB
  obtain ⟨_, _, _, rC, _⟩ := vC
  obtain ⟨_, _, _, rD, _⟩ := vD
  refine ⟨hG.below, ?_, ?_, ?_, ?_, apart_of sB, apart_of sC1, apart_of sD1, apart_of sC2, apart_of sD2, apart_of sD3⟩
  · rw [← cellsOn_snoc _ l k h]; exact rA
  · rw [← cellsOn_snoc _ l k h]; exact rB
  · rw [← cellsOn_snoc _ l k h]; exact rC
  · rw [← cellsOn_snoc _ l k h]; exact rD

def rowStr (f : Tri → UInt8) (l : List Tri) : ByteArray := ⟨(l.map f).toArray⟩
theorem conv_own {w : World} {base : Nat} {v : Value} {f : Tri → UInt8} {l : List Tri} (h : w.ownsRow base 5 1 v l.length (cellsOn f (l.take l.length))) (d : Nat) (os : Array Obj) :
    (convert 30 9 v).run Try.prog (Go.Sort.grow (redrawn w d) os) = .ok (.string (rowStr f l)) (Go.Sort.grow (redrawn w d) os) := by
  rw [List.take_length] at h
  have hc := fun g hg => h.cells (g := g) hg
  rcases h.2 with ⟨rfl, h0⟩ | ⟨g, cap, cur, rfl, hb, hg, _⟩
  · obtain rfl : l = [] := List.length_eq_zero_iff.1 h0
    rw [run_convert_bytes_nil (P := Try.prog) _ 30 5 Try.underlying30 Try.underlying5 0 0 9 Try.underlying9]
    rfl
  · rw [run_convert_bytes_arg (P := Try.prog) (Go.Sort.grow (redrawn w d) os) 30 5 Try.underlying30 Try.underlying5 g 0 l.length cap (l.map fun t => ((f t).toNat : Int)) (by simp) (fun i hi => by
      refine cell_regrown ?_ d os
      have := hc g rfl i (.int .u8 (f l[i]).toNat) (by simp [cellsOn, hi])
      rw [show (⟨g, 0, none⟩ : Addr).add i = ⟨g, 0 + i, none⟩ by unfold Addr.add; split <;> simp_all] at this
      rw [this]; simp [List.getD, hi]) 9 Try.underlying9]
    simp [strOfNums, rowStr, Function.comp_def]
theorem Sum_row (f : Tri → UInt8) (l : List Tri) (h : l.length ≤ 500) (w : World) : Calls Try.prog 9 #[.string (rowStr f l)] w fun e w' => e = .returned (.int .u32 (crcMore 0 (l.map f))) ∧ RowKit.Below w.heap.size w w' :=
  (Sum_any (rowStr f l) (by unfold maxLen; show (l.map f).toArray.size ≤ _; simp; omega) w).mono fun _ _ h => h
theorem sums_eq (l : List Tri) : (bits .xor .u32 (bits .xor .u32 ((crcMore 0 (l.map (·.1)) : Nat) : Int) ((crcMore 0 (l.map (·.2.1)) : Nat) : Int)) ((crcMore 0 (l.map (·.2.2)) : Nat) : Int) == ((crcMore 0 (l.map tri3) : Nat) : Int)) = true := by
  rw [u32_xor_nat _ _ (crcMore_lt _ _) (crcMore_lt _ _), u32_xor_nat _ _ (xor_u32 (crcMore_lt _ _) (crcMore_lt _ _)) (crcMore_lt _ _), crc_xor3]
  exact beq_self_eq_true _

set_option maxRecDepth 100000 in
set_option maxHeartbeats 4000000 in
theorem CrcLinear_walk (v : Value) (l : List Tri) (w : World) (hv : IsTris w v l) :
    Calls Try.prog 7 #[v] w fun e w' => e = .returned (.bool true) ∧ RowKit.Below w.heap.size w w' := by
  obtain ⟨a, cap, rfl, hc⟩ := hv
  have HC := Lib.hid hc; clear hc
  by_cases h1 : l.length ≤ 500
  · go_enter Try.func7, Try.ntmps7
    go_wp2_with fail
    go_loopw [3, 4, 5, 6, 15] (fun va vb vc vd i wr => ∃ k : Nat, k ≤ l.length ∧ i = .int .i64 k ∧ LinRel w l k va vb vc vd wr) (fun _ _ _ _ i _ => l.length - (intOf i).toNat)
    case atStart =>
      exact ⟨0, by omega, rfl, rel_start l w⟩
    case round =>
      obtain ⟨k, hk, rfl, hR⟩ := hrel
      by_cases hlt : k < l.length
      · obtain ⟨b, off, rfl, hbl, hcell⟩ := HC.out (by omega)
        obtain ⟨c0, c1, c2⟩ := hcell k hlt
        rw [← hR.below.cell (p := ⟨b, off + k * 3, none⟩) hbl] at c0
        rw [← hR.below.cell (p := ⟨b, off + k * 3 + 1, none⟩) hbl] at c1
        rw [← hR.below.cell (p := ⟨b, off + k * 3 + 2, none⟩) hbl] at c2
        clear hcell
        have HR := Lib.hid hR; clear hR
        go_wp2_with fail
        have ok := linOk hlt h1 HR.out
        refine wp_region_rely (by kernel_rfl) (by kernel_rfl) (linT (linCtx w wr.heap.size l k hlt u3 u4 u5 u6)) (linG (linCtx w wr.heap.size l k hlt u3 u4 u5 u6)) (linV (linCtx w wr.heap.size l k hlt u3 u4 u5 u6)) 34 linNeeds linLast linDep (by kernel_rfl) lin_needs (lin_dep _)
          (fun i k a w w' hi hk hne hke h hT => lin_T ok i k a w w' hi hk hne hke h hT) ?_ ?_ (forall_ops (S := LinStep (linCtx w wr.heap.size l k hlt u3 u4 u5 u6) _ _ _) ?_) ?_
        · show linG _ (World.drew (wr.alloc _))
          exact ⟨(HR.out.below.alloc HR.out.below.size _).drew, by show wr.heap.size < (wr.alloc _).heap.size; simp, heap_alloc_new _ _⟩
        · intro j hj hge
          match j, hj, hge with
          | 30, _, _ => exact HR.out.ra.alloc _
          | 31, _, _ => exact HR.out.rb.alloc _
          | 32, _, _ => exact HR.out.rc.alloc _
          | 33, _, _ => exact HR.out.rd.alloc _
          | n + 34, hj, _ => exact absurd hj (by omega)
        · exact ⟨lin_move (s := 3) (d := 19) (.inl rfl) rfl (by kernel_rfl) rfl (by show (19 : Nat) < 64; decide) (fun _ _ h => h),
          lin_ptr (n := 0) (s := 8) (d := 20) rfl (by omega) rfl (by kernel_rfl) rfl (by show (20 : Nat) < 64; decide) (fun _ _ h => h),
          lin_load (j := 1) (n := 0) (s := 20) (d := 21) rfl rfl (by decide) (fun _ _ h => h) rfl (by show (21 : Nat) < 64; decide) (fun _ _ h => h),
          lin_build ok (j := 2) (s := 21) (d := 22) rfl rfl (by decide) (fun _ _ h => h) (by show (22 : Nat) < 64; decide) (fun _ _ h => h),
          lin_app ok (jm := 0) (jb := 3) (s1 := 19) (s2 := 22) (d := 23) rfl rfl (by decide) (by decide) (fun _ _ h => h) (fun _ _ h => h) (fun _ _ h => h 30 (by decide)) rfl (by show (23 : Nat) < 64; decide) (linA ok),
          lin_move (s := 4) (d := 24) (.inl rfl) rfl (by kernel_rfl) rfl (by show (24 : Nat) < 64; decide) (fun _ _ h => h),
          lin_ptr (n := 1) (s := 8) (d := 25) rfl (by omega) rfl (by kernel_rfl) rfl (by show (25 : Nat) < 64; decide) (fun _ _ h => h),
          lin_load (j := 6) (n := 1) (s := 25) (d := 26) rfl rfl (by decide) (fun _ _ h => h) rfl (by show (26 : Nat) < 64; decide) (fun _ _ h => h),
          lin_build ok (j := 7) (s := 26) (d := 27) rfl rfl (by decide) (fun _ _ h => h) (by show (27 : Nat) < 64; decide) (fun _ _ h => h),
          lin_app ok (jm := 5) (jb := 8) (s1 := 24) (s2 := 27) (d := 28) rfl rfl (by decide) (by decide) (fun _ _ h => h) (fun _ _ h => h) (fun _ _ h => h 31 (by decide)) rfl (by show (28 : Nat) < 64; decide) (linB ok),
          lin_move (s := 5) (d := 29) (.inl rfl) rfl (by kernel_rfl) rfl (by show (29 : Nat) < 64; decide) (fun _ _ h => h),
          lin_ptr (n := 2) (s := 8) (d := 30) rfl (by omega) rfl (by kernel_rfl) rfl (by show (30 : Nat) < 64; decide) (fun _ _ h => h),
          lin_load (j := 11) (n := 2) (s := 30) (d := 31) rfl rfl (by decide) (fun _ _ h => h) rfl (by show (31 : Nat) < 64; decide) (fun _ _ h => h),
          lin_build ok (j := 12) (s := 31) (d := 32) rfl rfl (by decide) (fun _ _ h => h) (by show (32 : Nat) < 64; decide) (fun _ _ h => h),
          lin_app ok (jm := 10) (jb := 13) (s1 := 29) (s2 := 32) (d := 33) rfl rfl (by decide) (by decide) (fun _ _ h => h) (fun _ _ h => h) (fun _ _ h => h 32 (by decide)) rfl (by show (33 : Nat) < 64; decide) (linC ok),
          lin_move (s := 6) (d := 34) (.inl rfl) rfl (by kernel_rfl) rfl (by show (34 : Nat) < 64; decide) (fun _ _ h => h),
          lin_ptr (n := 0) (s := 8) (d := 35) rfl (by omega) rfl (by kernel_rfl) rfl (by show (35 : Nat) < 64; decide) (fun _ _ h => h),
          lin_load (j := 16) (n := 0) (s := 35) (d := 36) rfl rfl (by decide) (fun _ _ h => h) rfl (by show (36 : Nat) < 64; decide) (fun _ _ h => h),
          lin_ptr (n := 1) (s := 8) (d := 37) rfl (by omega) rfl (by kernel_rfl) rfl (by show (37 : Nat) < 64; decide) (fun _ _ h => h),
          lin_load (j := 18) (n := 1) (s := 37) (d := 38) rfl rfl (by decide) (fun _ _ h => h) rfl (by show (38 : Nat) < 64; decide) (fun _ _ h => h),
          lin_xor (j1 := 17) (j2 := 19) (s1 := 36) (s2 := 38) (d := 39) rfl rfl (by decide) (by decide) (fun _ _ h => h) (fun _ _ h => h) (by show (39 : Nat) < 64; decide) (fun _ _ h => h),
          lin_ptr (n := 2) (s := 8) (d := 40) rfl (by omega) rfl (by kernel_rfl) rfl (by show (40 : Nat) < 64; decide) (fun _ _ h => h),
          lin_load (j := 21) (n := 2) (s := 40) (d := 41) rfl rfl (by decide) (fun _ _ h => h) rfl (by show (41 : Nat) < 64; decide) (fun _ _ h => h),
          lin_xor (j1 := 20) (j2 := 22) (s1 := 39) (s2 := 41) (d := 42) rfl rfl (by decide) (by decide) (fun _ _ h => h) (fun _ _ h => h) (by show (42 : Nat) < 64; decide) (fun _ _ h => h.trans (congrArg _ ok.x3)),
          lin_build ok (j := 23) (s := 42) (d := 43) rfl rfl (by decide) (fun _ _ h => h) (by show (43 : Nat) < 64; decide) (fun _ _ h => h),
          lin_app ok (jm := 15) (jb := 24) (s1 := 34) (s2 := 43) (d := 44) rfl rfl (by decide) (by decide) (fun _ _ h => h) (fun _ _ h => h) (fun _ _ h => h 33 (by decide)) rfl (by show (44 : Nat) < 64; decide) (linD ok),
          lin_assign (s := 23) (d := 3) rfl rfl (by decide) (by show (3 : Nat) < 64; decide) (fun _ _ h => h),
          lin_assign (s := 28) (d := 4) rfl rfl (by decide) (by show (4 : Nat) < 64; decide) (fun _ _ h => h),
          lin_assign (s := 33) (d := 5) rfl rfl (by decide) (by show (5 : Nat) < 64; decide) (fun _ _ h => h),
          lin_assign (s := 44) (d := 6) rfl rfl (by decide) (by show (6 : Nat) < 64; decide) (fun _ _ h => h), trivial⟩
        · intro a w' hG hV hO hS hD
          have hR' := rel_next hlt hG hV
          have ha := act_patch [19, 20, 21, 22, 23, 24, 25, 26, 27, 28, 29, 30, 31, 32, 33, 34, 35, 36, 37, 38, 39, 40, 41, 42, 43, 44, 3, 4, 5, 6] hS hD (fun t ht => hO t (free_of (fun h => ht h)))
          generalize slot a = s at hR' ha
          subst ha
          have HR' := Lib.hid hR'
          clear hR' hG hV hO hS hD ok c0 c1 c2
          simp only [patchL, List.contains_cons, List.contains_nil, Nat.reduceBEq, Bool.or_false, Bool.or_true, if_true, Bool.false_eq_true, if_false, Nat.reduceAdd]
          generalize s 3 = s3 at HR' ⊢
          generalize s 4 = s4 at HR' ⊢
          generalize s 5 = s5 at HR' ⊢
          generalize s 6 = s6 at HR' ⊢
          go_wp2_with fail
          refine ⟨⟨k + 1, by omega, by go_num, HR'.out⟩, ?_⟩
          simp [intOf]; omega
      · obtain rfl : k = l.length := by omega
        have ea := conv_own hR.ra
        have eb := conv_own hR.rb
        have ec := conv_own hR.rc
        have ed := conv_own hR.rd
        have hbel := hR.below
        have c1 := fun w => Sum_row (·.1) l h1 w
        have c2 := fun w => Sum_row (·.2.1) l h1 w
        have c3 := fun w => Sum_row (·.2.2) l h1 w
        have c4 := fun w => Sum_row tri3 l h1 w
        have C1 := Lib.hid c1; have C2 := Lib.hid c2; have C3 := Lib.hid c3; have C4 := Lib.hid c4
        have hx := sums_eq l
        clear c1 c2 c3 c4 hR
        go_wp2_with fail
        refine wp_region_quiet_below (by kernel_rfl) (by kernel_rfl) ?_
        repeat (first | go_big_quiet_step ((first | exact Calls.regrown_of (C1.out _) | exact Calls.regrown_of (C2.out _) | exact Calls.regrown_of (C3.out _) | exact Calls.regrown_of (C4.out _) | exact Calls.regrown_of (awake_any _))) | quiet_step ((first | exact Calls.regrown_of (C1.out _) | exact Calls.regrown_of (C2.out _) | exact Calls.regrown_of (C3.out _) | exact Calls.regrown_of (C4.out _) | exact Calls.regrown_of (awake_any _))))
        refine wpQuiet_nil ?_
        intro wq hwq
        have hbq : RowKit.Below wr.heap.size wr wq := by obtain ⟨p, rfl⟩ := hwq; exact below_regrown _ _ _
        clear hwq
        go_wp2_with fail
        go_ret
        exact ⟨rfl, below_step hbel hbq⟩
  · go_enter Try.func7, Try.ntmps7
    go_wp2_with fail
    refine (awake_any _).mono ?_
    rintro e w5 ⟨rfl, hb5⟩
    go_wp2_with fail
    go_ret
    exact ⟨rfl, hb5⟩

theorem three_of : ∀ {z : List Int}, z.length = 3 → (∀ y ∈ z, (Lit.int .u8 y).wf = true) → ∃ t : Tri, z = [(t.1.toNat : Int), (t.2.1.toNat : Int), (t.2.2.toNat : Int)]
  | [a, b, c], _, h => by
    obtain ⟨x, hx⟩ := u8_of_wf' (h a (by simp))
    obtain ⟨y, hy⟩ := u8_of_wf' (h b (by simp))
    obtain ⟨z, hz⟩ := u8_of_wf' (h c (by simp))
    exact ⟨(x, y, z), by rw [hx, hy, hz]⟩
theorem tris_of : ∀ {L : List (List Int)}, (∀ z ∈ L, z.length = 3 ∧ ∀ y ∈ z, (Lit.int .u8 y).wf = true) → ∃ l : List Tri, L = l.map fun t => [(t.1.toNat : Int), (t.2.1.toNat : Int), (t.2.2.toNat : Int)]
  | [], _ => ⟨[], rfl⟩
  | z :: L, h => by
    obtain ⟨t, rfl⟩ := three_of (h z (by simp)).1 (h z (by simp)).2
    obtain ⟨l, rfl⟩ := tris_of (L := L) (fun y hy => h y (by simp [hy]))
    exact ⟨t :: l, rfl⟩
/-- CrcLinear, of a slice as it comes. -/
theorem CrcLinear_walk' {H : Type} {enc : TypeId × Value → H} {spare : Nat → Bool} {held : Bool} {r : Reach} {b0 : Nat} (v : Value) (d : DataW H) (p : List MemPlace) {W : World} (hval : Value.okWide Try.prog W r b0 34 v) (h : DataW.Trod enc Try.prog W 0 spare held 34 v d p) (w : World) (hw : w = W) :
    Calls Try.prog 7 #[v] w fun e w' => e = .returned (.bool true) ∧ RowKit.Below w.heap.size w w' := by
  subst hw
  obtain ⟨a, cap, L, rfl, _, hL, hc⟩ := open_slice_ints_arr Try.underlying34 Try.underlying35 Try.underlying5 (by kernel_rfl) (by kernel_rfl) (by decide) hval h
  obtain ⟨l, rfl⟩ := tris_of hL
  refine CrcLinear_walk _ l w ⟨a, cap, by simp, fun h0 => ?_⟩
  obtain ⟨b, off, e, hb, hcell⟩ := hc (by simpa using h0)
  refine ⟨b, off, e, hb, fun i hi => ?_⟩
  have k0 := hcell i (by simpa using hi) 0 (by simp)
  have k1 := hcell i (by simpa using hi) 1 (by simp)
  have k2 := hcell i (by simpa using hi) 2 (by simp)
  simp only [List.getElem_map] at k0 k1 k2
  exact ⟨k0, k1, k2⟩
end Go.Proofs.Ytplfdjejkllhkaa

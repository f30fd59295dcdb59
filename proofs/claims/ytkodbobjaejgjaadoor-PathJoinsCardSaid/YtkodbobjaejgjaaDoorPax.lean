/-
  Contracts over this translation: the names that a text begins with, handed out one by one.
-/
import Derived.Test.YtkodbobjaejgjaaDoorPaq
import Derived.RangeFuncCalls
import Derived.RangeFuncLeaves
set_option linter.unusedVariables false
namespace Go.Proofs.YtkodbobjaejgjaaDoor
open Go.RowKit Go.Shelf
attribute [local go_sem] Oper.semAt_some

theorem room_of_none {F : Fence} (hd : F.depth = none) (k : Nat) : F.room k := fun d h => by rw [hd] at h; cases h
theorem RoundIn.anyDepth {F : Fence} (hd : F.depth = none) {m m' : Nat} {P : Program} {l : Nat} {f : FuncId} {tmps : Array Value} {assign body : Code} {w : World} {R : Ending → World → Prop}
    (h : RoundIn F m P l f tmps assign body w R) : RoundIn F m' P l f tmps assign body w R := ⟨h.1, fun c cs _ => h.2 c cs (room_of_none hd _)⟩
theorem RoundIn.inRound {F : Fence} {m : Nat} {P : Program} {l : Nat} {f : FuncId} {tmps : Array Value} {assign body : Code} {w : World} {R : Ending → World → Prop} (l' : Nat)
    (h : RoundIn F m P l f tmps assign body w R) : RoundIn (F.inRound l') m P l f tmps assign body w R := h

theorem grown_some {W W' : World} {B : Nat} (h : Below W.heap.size W W') : W.grownBy W' (some B) := ⟨h.os, h.tape, h.output, h.size, fun k hk _ => h.block k hk⟩

/-- The blocks that names$1 makes ahead of the first name. -/
def winA (n b : Nat) : Prop := n ≤ b ∧ b < n + 6
def AllN (L : List ByteArray) : Prop := ∀ p ∈ L, nameB p.data.toList = true
theorem allN_snoc {L : List ByteArray} {x : ByteArray} (h : AllN L) (hx : nameB x.data.toList = true) : AllN (L ++ [x]) := fun p hp => by
  rcases List.mem_append.1 hp with e | e
  · exact h p e
  · rw [List.mem_singleton.1 e]; exact hx
theorem takeWhile_app {p : List UInt8 → Bool} {A : List (List UInt8)} {x : List UInt8} {R : List (List UInt8)} (hA : ∀ a ∈ A, p a = true) (hx : p x = false) : (A ++ x :: R).takeWhile p = A := by
  induction A with
  | nil => rw [List.nil_append, List.takeWhile_cons, hx]; rfl
  | cons a A ih =>
    rw [List.cons_append, List.takeWhile_cons, hA a (List.mem_cons_self ..), if_pos rfl, ih (fun b hb => hA b (List.mem_cons_of_mem _ hb))]
theorem first_all {l : List UInt8} {L : List ByteArray} (h : AllN L) (e : txts L = pts l) : txts L = firstN l := by
  unfold firstN; rw [← e, takeWhile_all]
  exact List.all_eq_true.2 fun p hp => by obtain ⟨q, hq, rfl⟩ := List.mem_map.1 hp; exact h q hq
theorem first_some {l : List UInt8} {L : List ByteArray} {x : ByteArray} {R : List (List UInt8)} (h : AllN L) (hx : nameB x.data.toList = false) (e : txts (L ++ [x]) ++ R = pts l) : txts L = firstN l := by
  unfold firstN; rw [← e]
  rw [show txts (L ++ [x]) ++ R = txts L ++ x.data.toList :: R by simp [txts]]
  rw [takeWhile_app (fun a ha => by obtain ⟨q, hq, rfl⟩ := List.mem_map.1 ha; exact h q hq) hx]

set_option maxRecDepth 100000 in
theorem names_any (s : ByteArray) (w : World) : Calls Tryd.prog 23 #[.string s] w fun e w' => e = .returned (.func (.func 30) #[] #[.pointer (some ⟨w.heap.size, 0, none⟩)]) ∧ w.alloc (.cells #[.string s] 9) = w' := by
  go_enter Tryd.func23, Tryd.ntmps23
  go_wp2
  go_ret
  exact ⟨rfl, rfl⟩

/-- A name. -/
abbrev NameS := { x : ByteArray // nameB x.data.toList = true }
abbrev encN (x : NameS) : Array Value := #[.string x.1]
def vals (M : List NameS) : List ByteArray := M.map (·.1)
theorem vals_all (M : List NameS) : AllN (vals M) := fun p hp => by obtain ⟨q, _, rfl⟩ := List.mem_map.1 hp; exact q.2
theorem vals_len (M : List NameS) : (vals M).length = M.length := List.length_map ..
theorem vals_snoc (M : List NameS) (x : NameS) : vals (M ++ [x]) = vals M ++ [x.1] := by simp [vals]
/-- What the loop over the parts holds. -/
def nameI (J : List NameS → World → Prop) (n l : Nat) (pre : List ByteArray) (W : World) : Prop :=
  ∃ M : List NameS, pre = vals M ∧ J M W ∧ Row W n #[.func (.yield l) #[] #[]] 23 ∧ n + 6 ≤ W.heap.size
def nameX (J : List NameS → World → Prop) (c : Code) (pre : List ByteArray) (W : World) : Prop :=
  c = .ret ∧ ∃ (M : List NameS) (x : ByteArray), pre = vals M ++ [x] ∧ nameB x.data.toList = false ∧ J M W

set_option maxHeartbeats 4000000 in
set_option maxRecDepth 100000 in
theorem names_own (n : Nat) (hn : 6 ≤ n) (Bs : Nat) (s : ByteArray) (hs : s.size ≤ 1000000) (w : World) (h1 : Row w Bs #[.string s] 9) :
    SeqOwn Fence.wide n Tryd.prog 30 #[.pointer (some ⟨Bs, 0, none⟩)] encN winA 6 False
      (fun xs => txts (vals xs) = firstN s.data.toList) (fun _ => False) (s.data.toList.length + 1) w := fun l J Jx W hW hst hJ hJx hY h0 => by
  have hro : Fence.wide.round = none := rfl
  have hn1 : 1 ≤ n := by omega
  have NA := Lib.hid Name_any
  refine callsIn_of_wp_marks Tryd.func30 rfl trivial ?_ hro
  simp only [Tryd.ntmps30, List.size_toArray, List.length_cons, List.length_nil, Nat.reduceAdd, Nat.reduceSub, Array.replicate_succ, Array.replicate_zero, List.push_toArray, List.append_toArray, List.nil_append, List.cons_append]
  have hBs := (h1.step hW).lt
  have r1 := (h1.step hW).alloc (.cells #[.func (.yield l) #[] #[]] 23)
  have c1 := r1.cell 0
  simp only [List.getElem?_toArray, List.getElem?_cons_zero] at c1
  gi_wp2_with (refine ⟨trivial, ?_⟩; gi_at_call 31; refine (callsIn_wide.2 (SplitSeq_any _ _)).mono ?_; rintro e w1 ⟨rfl, rfl⟩)
  obtain ⟨q1, q2, q3, hbV, hVs⟩ := seqW_rows s (W.alloc (.cells #[.func (.yield l) #[] #[]] 23))
  have hy0 : Row (seqW s (W.alloc (.cells #[.func (.yield l) #[] #[]] 23))) W.heap.size #[.func (.yield l) #[] #[]] 23 := (Row.made W _ _).step hbV
  have hBW : Below W.heap.size W (seqW s (W.alloc (.cells #[.func (.yield l) #[] #[]] 23))) := ((Below.refl _ W).alloc (Nat.le_refl _) _).trans (hbV.mono (by simp))
  rw [World.size_alloc] at q1 q2 q3 hVs
  obtain ⟨V, hV⟩ : ∃ V, V = seqW s (W.alloc (.cells #[.func (.yield l) #[] #[]] 23)) := ⟨_, rfl⟩
  rw [← hV] at q1 q2 q3 hVs hy0 hBW ⊢
  clear hV hbV r1 c1
  have hVs4 : V.heap.size = W.heap.size + 4 := hVs
  have inA : ∀ b, (sepA (W.heap.size + 1) (V.heap.size + 2) b ∨ b = V.heap.size ∨ b = V.heap.size + 1) → winA W.heap.size b := fun b hb => by
    rcases hb with (h | h | h) | h | h <;> (unfold winA; omega)
  have inB : ∀ b, (sepA (W.heap.size + 1) (V.heap.size + 2) b ∨ b = V.heap.size ∨ b = V.heap.size + 1) → b ≠ W.heap.size := fun b hb => by
    rcases hb with (h | h | h) | h | h <;> omega
  have HA := Lib.hid inA; have HB := Lib.hid inB; have HVS := Lib.hid hVs4
  clear inA inB hVs
  refine wpIn_rangeFunc_win hro hn1 (gf := 53) (lb := #[.pointer (some ⟨W.heap.size + 1 + 1, 0, none⟩), .pointer (some ⟨W.heap.size + 1, 0, none⟩), .pointer (some ⟨W.heap.size + 1 + 2, 0, none⟩)]) rfl trivial (enters_of Tryd.func53 (by kernel_rfl) rfl)
    (seq_own (n - 1) (by omega) True (W.heap.size + 1) s hs V q1 q2 q3) (Below.refl _ _) (fun _ => rfl)
    (fun b hb => by rcases hb with h | h | h <;> omega)
    (nameI J W.heap.size l) (nameX J)
    (fun L b X Y hb hI hg => by
      obtain ⟨M, e, hj, hr, hz⟩ := hI
      exact ⟨M, e, hJ _ b _ _ (HA.out b hb) hj hg, (hg.block _ hr.lt (fun e => HB.out b hb (by cases e; rfl))).trans hr, Nat.le_trans hz hg.size⟩)
    (fun c L b X Y hb hI hg => by
      obtain ⟨hc, M, x, e, hx, hj⟩ := hI
      exact ⟨hc, M, x, e, hx, hJ _ b _ _ (HA.out b hb) hj hg⟩)
    (fun _ _ _ _ => trivial)
    (fun o => by
      have hB2 : Below W.heap.size W ((V.alloc (.deferred (some []))).alloc (.loop o)) := (hBW.alloc (by omega) _).alloc (by simp; omega) _
      refine ⟨[], rfl, hJ _ W.heap.size _ _ ⟨Nat.le_refl _, by omega⟩ h0 (grown_some hB2), (hy0.alloc _).alloc _, by simp; omega⟩)
    (fun x => { tmps := #[.func (.yield l) #[] #[], .pointer (some ⟨Bs, 0, none⟩), .pointer (some ⟨W.heap.size, 0, none⟩), .string x, .string s, seqV (W.heap.size + 1), .string x, undef, undef, undef, undef, undef, undef, undef, undef, undef], defers := [] })
    ?assign ?body ?done ?stop
  all_goals clear hVs4
  case assign =>
    intro l' x W' K hK
    gi_wp2
    exact hK
  case body =>
    rintro l' pre x W' ⟨M, rfl, hj, hbox, hsz⟩ hlen _
    rw [vals_len] at hlen
    have hn2 : 1 ≤ n - 1 - 1 := by omega
    have R := Lib.hid (NA.out x W')
    clear h0 q1 q2 q3 hy0
    rcases hb : nameB x.data.toList with _ | _
    · rw [hb] at R
      have HX := Lib.hid hb
      clear hb hY
      gi_wp2_with fail
      refine ⟨trivial, ?_⟩
      refine (CallsIn.inRound l' (callsIn_wide.2 R.out)).mono ?_
      rintro e W2 ⟨rfl, hb2⟩
      gi_wp2_with fail
      refine ⟨fun _ h => (by cases h), ?_⟩
      gi_wp2
      exact ⟨KeepsAt.below hb2 (fun k hk => by have := HVS.out; omega), rfl, M, x, rfl, HX.out, hJ _ W.heap.size _ _ ⟨Nat.le_refl _, by omega⟩ hj (grown_some hb2)⟩
    · rw [hb] at R
      have HX := Lib.hid hb
      clear hb
      gi_wp2_with fail
      refine ⟨trivial, ?_⟩
      refine (CallsIn.inRound l' (callsIn_wide.2 R.out)).mono ?_
      rintro e W2 ⟨rfl, hb2⟩
      have hj2 := hJ _ W.heap.size _ _ ⟨Nat.le_refl _, by omega⟩ hj (grown_some hb2)
      have hbx2 := hbox.step hb2
      have hsz2 : W.heap.size + 6 ≤ W2.heap.size := Nat.le_trans hsz hb2.size
      have cb := hbx2.cell 0
      simp only [List.getElem?_toArray, List.getElem?_cons_zero] at cb
      obtain ⟨fn, tmps, assign, body, hy, hRd⟩ := hY M ⟨x, HX.out⟩ _ hj2 hlen (fun _ => hsz2)
      simp only [encN] at hy
      have HRD := Lib.hid (RoundIn.inRound l' hRd)
      clear hY hRd hj hbox
      gi_wp2_with fail
      refine (RoundIn.anyDepth rfl HRD.out).mono ?_
      rintro e W3 (⟨rfl, hJ3, hk3⟩ | ⟨rfl, hJ3⟩)
      · gi_wp2
        have hsz3 : W.heap.size + 6 ≤ W3.heap.size := by
          have h1 := hk3 (W.heap.size + 5) ⟨by omega, by omega⟩
          rw [Array.getElem?_eq_getElem (show W.heap.size + 5 < W2.heap.size by omega)] at h1
          have := (Array.getElem?_eq_some_iff.1 h1).1
          omega
        refine ⟨(KeepsAt.below hb2 (fun k hk => ?_)).trans (hk3.mono (fun k hk => HA.out k hk)), ⟨_, (vals_snoc M ⟨x, HX.out⟩).symm, hJ3, keeps_row hk3 hbx2 ⟨Nat.le_refl _, by omega⟩, hsz3⟩⟩
        have := (HA.out k hk).2
        omega
      · exact (hst _ _ hJ3).elim
  case done =>
    rintro xs W' hxs ⟨M, rfl, hj, hbox, hsz⟩ hK
    gi_wp2
    refine ⟨by simp, .inl ⟨_, _, rfl, run_takeDeferred hK, ?_⟩⟩
    exact ⟨_, results_none rfl _ _ _, ⟨_, rfl⟩, .inl ⟨M, first_all (vals_all M) hxs, hJ _ V.heap.size _ _ (HA.out _ (.inr (.inl rfl))) hj (grownBy_putObj' _ _ _)⟩⟩
  case stop =>
    rintro c pre W' ⟨rest, hr⟩ ⟨rfl, M, x, rfl, hx, hj⟩ hK
    gi_wp2
    refine ⟨by simp, .inl ⟨_, _, rfl, run_takeDeferred hK, ?_⟩⟩
    exact ⟨_, results_none rfl _ _ _, ⟨_, rfl⟩, .inl ⟨M, first_some (vals_all M) hx hr, hJ _ V.heap.size _ _ (HA.out _ (.inr (.inl rfl))) hj (grownBy_putObj' _ _ _)⟩⟩
end Go.Proofs.YtkodbobjaejgjaaDoor

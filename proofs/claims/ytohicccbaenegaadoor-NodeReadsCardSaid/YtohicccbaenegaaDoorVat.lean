/-
  Contracts over this translation: varint.firstBytes, varint.Take.
-/
import Derived.RegionTactic
import Derived.BigRegionIn
import Derived.Sort.CutIn
import Derived.ChangeAlike
import Derived.Test.YtohicccbaenegaaDoorVar
set_option linter.unusedVariables false
namespace Go.Proofs.YtohicccbaenegaaDoor
open Go.RowKit Go.Shelf
attribute [local go_sem] Oper.semAt_some

theorem firstBytes_any (s : ByteArray) (w : World) :
    Calls Tryd.prog 65 #[.string s] w fun e w' => e = .returned (.func (.func 68) #[] #[.pointer (some ⟨w.heap.size, 0, none⟩)]) ∧ w' = w.alloc (.cells #[.string s] 9) := by
  go_enter Tryd.func65, Tryd.ntmps65
  go_wp2
  go_ret
  exact ⟨rfl, rfl⟩

abbrev encE (x : Fin 10 × UInt8) : Array Value := #[.int .i64 (x.1.val : Nat), .int .u8 x.2.toNat]
/-- A round keeps the box. -/
def KeepsBox (B : Nat) (t : TypeId) (v : Value) (W W' : World) : Prop := Boxed W B t v → Boxed W' B t v

theorem upTo_succ {l : List UInt8} {k : Nat} (h1 : k < 10) (h2 : k < l.length) : (enF 0 l).take (k + 1) = (enF 0 l).take k ++ [(⟨k, h1⟩, l[k])] := by
  have hg := enF_get l 0 k (by omega) h2
  have hlt : k < (enF 0 l).length := by rw [enF_length]; omega
  rw [List.take_succ_eq_append_getElem hlt]
  congr 2
  rw [List.getElem?_eq_getElem hlt] at hg
  simpa using hg

theorem upTo_succ' {s : ByteArray} {k : Nat} (h1 : k < 10) (h2 : k < s.size) : (enF 0 s.data.toList).take (k + 1) = (enF 0 s.data.toList).take k ++ [(⟨k, h1⟩, s[k]'h2)] :=
  upTo_succ (l := s.data.toList) h1 h2

set_option maxHeartbeats 1000000 in
set_option maxRecDepth 100000 in
theorem firstBytes1_stops (F : Fence) (n : Nat) (hf : F.fn 68) (hro : F.round = none) (hn : 1 ≤ n) (Bn : Nat) (s : ByteArray) (hs : s.size ≤ maxLen) (w : World) (hB : Boxed w Bn 9 (.string s)) :
    SeqStopsK F n Tryd.prog 68 #[.pointer (some ⟨Bn, 0, none⟩)] encE (KeepsBox Bn 9 (.string s)) (fun xs => xs = enF 0 s.data.toList) (fun pre => pre <+: enF 0 s.data.toList) (enF 0 s.data.toList).length w := fun l J Jx W hW hJ hJx hY h0 => by
  unfold maxLen at hs
  have hb1 : Boxed W Bn 9 (.string s) := (hW.block Bn hB.lt).trans hB
  have hc1 := hb1.cell
  have HS := Lib.hid (Lib.size_eq s)
  refine callsIn_of_wp Tryd.func68 rfl hf ?_ hro
  simp only [Tryd.ntmps68, List.size_toArray, List.length_cons, List.length_nil, Nat.reduceAdd, Nat.reduceSub, Array.replicate_succ, Array.replicate_zero, List.push_toArray, List.append_toArray, List.nil_append, List.cons_append]
  gi_wp2
  gi_loopw [7] (fun p wr => ∃ k : Nat, k ≤ s.size ∧ k ≤ 10 ∧ p = .int .i64 k ∧ J ((enF 0 s.data.toList).take k) wr ∧ Boxed wr Bn 9 (.string s))
    (fun p wr => 10 - (intOf p).toNat)
  case atStart =>
    exact ⟨0, Nat.zero_le _, Nat.zero_le _, rfl, h0, hb1⟩
  case round =>
    obtain ⟨k, hk1, hk2, rfl, hJs, hbx⟩ := hrel
    by_cases hlt : k < s.size ∧ k < 10
    · obtain ⟨hlt1, hlt2⟩ := hlt
      have hup := upTo_succ' hlt2 hlt1
      have hY1 := hY _ (⟨k, hlt2⟩, s[k]'hlt1) wr hJs (by rw [List.length_take, enF_length, ← HS.out]; omega)
      rw [← hup] at hY1
      have HUP := Lib.hid hup; clear hup
      obtain ⟨fn, tmps, assign, body, hy, hR⟩ := hY1
      simp only [encE] at hy
      have hcx := hbx.cell
      clear hY
      gi_wp2
      refine hR.mono ?_
      rintro e W3 (⟨rfl, hJ3, hk3⟩ | ⟨rfl, hJx3⟩)
      · gi_wp2
        go_roundw
        case rel => exact ⟨k + 1, by omega, by omega, by go_num, hJ3, hk3 hbx⟩
        case measure => simp [intOf]; omega
      · gi_wp2
        refine bodyPost_ret (results_none rfl _ _ _) rfl ?_
        exact ⟨⟨_, rfl⟩, .inr ⟨_, List.take_prefix _ _, hJx3⟩⟩
    · have hmin : ¬ ((k : Int) < min (s.size : Int) 10) := by omega
      have hall : (enF 0 s.data.toList).take k = enF 0 s.data.toList := List.take_of_length_le (by rw [enF_length, ← HS.out]; omega)
      have HALL := Lib.hid hall; clear hall hY
      gi_wp2
      go_end0
      exact ⟨⟨_, rfl⟩, .inl (by rw [← HALL.out]; exact hJs)⟩

/-- What the loop of Take holds: what has come goes on; the number so far; the results at nought. -/
def takeI (b : Nat) (pre : List (Fin 10 × UInt8)) (W : World) : Prop :=
  (∀ y ∈ pre, goesOn y) ∧ Boxed W b 44 (.int .u64 0) ∧ Boxed W (b + 1) 3 (.int .i64 0) ∧ Boxed W (b + 2) 27 (.int .i64 0) ∧ Boxed W (b + 3) 44 (.int .u64 (accOf pre))
/-- What it holds where a round has returned. -/
def takeX (b : Nat) (pre : List (Fin 10 × UInt8)) (W : World) : Prop :=
  ∃ p x, pre = p ++ [x] ∧ (∀ y ∈ p, goesOn y) ∧ endsAt x ∧ Boxed W b 44 (.int .u64 (told (accOf p) x).1) ∧ Boxed W (b + 1) 3 (.int .i64 (told (accOf p) x).2.1) ∧ Boxed W (b + 2) 27 (.int .i64 (told (accOf p) x).2.2)
theorem takeI_own (b : Nat) : Own (takeI b) := fun s A B row hs hg hr =>
  ⟨hs.1, boxed_keep hs.2.1 hg hr, boxed_keep hs.2.2.1 hg hr, boxed_keep hs.2.2.2.1 hg hr, boxed_keep hs.2.2.2.2 hg hr⟩
theorem takeX_own (b : Nat) : Own (takeX b) := by
  rintro s A B row ⟨p, x, h1, h2, h3, h4, h5, h6⟩ hg hr
  exact ⟨p, x, h1, h2, h3, boxed_keep h4 hg hr, boxed_keep h5 hg hr, boxed_keep h6 hg hr⟩

theorem takeOnV {b : Nat} {pre : List (Fin 10 × UInt8)} {x : Fin 10 × UInt8} {W : World} (hgo : ∀ y ∈ pre, goesOn y) (hx : goesOn x)
    (b0 : Boxed W b 44 (.int .u64 0)) (b1 : Boxed W (b + 1) 3 (.int .i64 0)) (b2 : Boxed W (b + 2) 27 (.int .i64 0)) (b3 : Boxed W (b + 3) 44 (.int .u64 (accOf pre))) :
    takeI b (pre ++ [x]) (W.setCell ⟨b + 3, 0, none⟩ (.int .u64 (orstep (accOf pre) x))) := by
  refine ⟨fun y hy => ?_, boxed_set b0 _ (by omega), boxed_set b1 _ (by omega), boxed_set b2 _ (by omega), ?_⟩
  · rcases List.mem_append.1 hy with h | h
    · exact hgo y h
    · obtain rfl := List.mem_singleton.1 h; exact hx
  · rw [accOf_snoc]; exact b3.set _

theorem told_eq {t q : Int × Int × Int} (h : t = q) : Ending.returned (.tuple #[.int .u64 t.1, .int .i64 t.2.1, .int .i64 t.2.2]) = .returned (.tuple #[.int .u64 q.1, .int .i64 q.2.1, .int .i64 q.2.2]) := by rw [h]

set_option maxRecDepth 100000 in
set_option maxHeartbeats 4000000 in
theorem Take_any (s : ByteArray) (hs : s.size ≤ maxLen) (w : World) :
    Calls Tryd.prog 58 #[.string s] w fun e w' => e = .returned (.tuple #[.int .u64 ((vtake s.data.toList).1 : Nat), .int .i64 ((vtake s.data.toList).2.1 : Nat), .int .i64 ((vtake s.data.toList).2.2 : Nat)]) ∧ Below w.heap.size w w' := by
  refine (callsIn_wide (n := 5)).1 ?_
  have hro : Fence.wide.round = none := rfl
  refine callsIn_of_wp_marks Tryd.func58 rfl trivial ?_ hro
  simp only [Tryd.ntmps58, List.size_toArray, List.length_cons, List.length_nil, Nat.reduceAdd, Nat.reduceSub, Array.replicate_succ, Array.replicate_zero, List.push_toArray, List.append_toArray, List.nil_append, List.cons_append]
  gi_wp2_with (refine ⟨trivial, ?_⟩; gi_at_call 65; refine (callsIn_wide.2 (firstBytes_any s _)).mono ?_; rintro e w' ⟨rfl, rfl⟩)
  have hB0 : Below w.heap.size w (((((w.alloc (.cells #[.int .u64 0] 44)).alloc (.cells #[.int .i64 0] 3)).alloc (.cells #[.int .i64 0] 27)).alloc (.cells #[.int .u64 0] 44)).alloc (.cells #[.string s] 9)) :=
    (((((Below.refl _ w).alloc (Nat.le_refl _) _).alloc (by simp) _).alloc (by simp; omega) _).alloc (by simp; omega) _).alloc (by simp; omega) _
  have hs0 := Boxed.new ((((w.alloc (.cells #[.int .u64 0] 44)).alloc (.cells #[.int .i64 0] 3)).alloc (.cells #[.int .i64 0] 27)).alloc (.cells #[.int .u64 0] 44)) 9 (.string s)
  have hI0 : takeI w.heap.size [] (((((w.alloc (.cells #[.int .u64 0] 44)).alloc (.cells #[.int .i64 0] 3)).alloc (.cells #[.int .i64 0] 27)).alloc (.cells #[.int .u64 0] 44)).alloc (.cells #[.string s] 9)) := by
    have h0 := ((((Boxed.new w 44 (.int .u64 0)).alloc (.cells #[.int .i64 0] 3)).alloc (.cells #[.int .i64 0] 27)).alloc (.cells #[.int .u64 0] 44)).alloc (.cells #[.string s] 9)
    have h1 := (((Boxed.new (w.alloc (.cells #[.int .u64 0] 44)) 3 (.int .i64 0)).alloc (.cells #[.int .i64 0] 27)).alloc (.cells #[.int .u64 0] 44)).alloc (.cells #[.string s] 9)
    have h2 := ((Boxed.new ((w.alloc (.cells #[.int .u64 0] 44)).alloc (.cells #[.int .i64 0] 3)) 27 (.int .i64 0)).alloc (.cells #[.int .u64 0] 44)).alloc (.cells #[.string s] 9)
    have h3 := (Boxed.new (((w.alloc (.cells #[.int .u64 0] 44)).alloc (.cells #[.int .i64 0] 3)).alloc (.cells #[.int .i64 0] 27)) 44 (.int .u64 0)).alloc (.cells #[.string s] 9)
    simp only [World.size_alloc] at h0 h1 h2 h3
    exact ⟨by simp, h0, h1, h2, h3⟩
  simp only [World.size_alloc] at hs0
  have hs0' : Boxed (((((w.alloc (.cells #[.int .u64 0] 44)).alloc (.cells #[.int .i64 0] 3)).alloc (.cells #[.int .i64 0] 27)).alloc (.cells #[.int .u64 0] 44)).alloc (.cells #[.string s] 9)) (w.heap.size + 4) 9 (.string s) := hs0
  refine wpIn_rangeFunc_ownF hro (by decide) (gf := 68) (lb := #[.pointer (some ⟨w.heap.size + 4, 0, none⟩)]) rfl trivial (enters_of Tryd.func68 (by kernel_rfl) rfl)
    (firstBytes1_stops Fence.wide 4 trivial hro (by decide) (w.heap.size + 4) s hs _ hs0') (fun h k => fun x => k (h x)) (fun W l o o' hl h _ _ hb => hb.kept (grownBy_putObj' W l o') (fun e => by cases e; simp at hl; omega)) (Below.refl _ _) (fun _ => rfl)
    (fun pre W => takeI w.heap.size pre W ∧ Below w.heap.size w W)
    (fun c pre W => (c = .ret ∧ takeX w.heap.size pre W) ∧ Below w.heap.size w W)
    (OwnFrom.and (Own.from (takeI_own _) _) (ownFrom_below (Nat.le_refl _) (by simp; omega)))
    (fun c => OwnFrom.and (Own.from (fun s A B row hs hg hr => ⟨hs.1, takeX_own _ s A B row hs.2 hg hr⟩) _) (ownFrom_below (Nat.le_refl _) (by simp; omega)))
    ⟨hI0, hB0⟩
    (fun x => { tmps := #[.string s, undef, .pointer (some ⟨w.heap.size, 0, none⟩), .pointer (some ⟨w.heap.size + 1, 0, none⟩), .pointer (some ⟨w.heap.size + 2, 0, none⟩), .pointer (some ⟨w.heap.size + 3, 0, none⟩), .int .i64 (x.1.val : Nat), .int .u8 x.2.toNat, .string s, .func (.func 68) #[] #[.pointer (some ⟨w.heap.size + 4, 0, none⟩)], .int .i64 (x.1.val : Nat), .int .u8 x.2.toNat, undef, undef, undef, undef, undef, undef, undef, undef, undef, undef, undef, undef, undef, undef, undef, undef, undef, undef, undef, undef, undef, undef, undef, undef, undef], defers := [] }) ?assign ?body ?done ?stop
  case assign =>
    intro l x W K hK
    gi_wp2
    exact hK
  case body =>
    rintro l pre ⟨⟨i, hi⟩, b⟩ W ⟨⟨hgo, b0, b1, b2, b3⟩, hB⟩ hlen
    have c0 := b0.cell; have c1 := b1.cell; have c2 := b2.cell; have c3 := b3.cell
    have f0 := b0.frozen; have f1 := b1.frozen; have f2 := b2.frozen; have f3 := b3.frozen
    have hbb : b.toNat < 256 := b.toNat_lt
    clear hB0 hs0 hs0' hI0
    by_cases hA : i = 9 ∧ 1 < b.toNat
    · obtain ⟨h9, h1⟩ := hA
      have h9' : (((i : Nat) : Int) == 9) = true := by rw [h9]; rfl
      have H9 := Lib.hid h9; clear h9
      gi_wp2
      obtain ⟨q0, q1, q2, q3, q4⟩ := three_set b0 b1 b2 (.int .u64 0) (.int .i64 0) (.int .i64 4)
      have ht : told (accOf pre) (⟨i, hi⟩, b) = (0, 0, 4) := by simp only [told]; rw [if_pos ⟨H9.out, h1⟩]
      exact ⟨q3, ⟨rfl, pre, _, rfl, hgo, .inl ⟨H9.out, h1⟩, by rw [ht]; exact q0, by rw [ht]; exact q1, by rw [ht]; exact q2⟩, hB.trans q4⟩
    · have hAw : (((i : Nat) : Int) == 9) = false ∨ ((((i : Nat) : Int) == 9) = true ∧ b.toNat ≤ 1) := by
        by_cases h9 : i = 9
        · right; exact ⟨by rw [h9]; rfl, by omega⟩
        · left; exact beq_eq_false_iff_ne.2 (by omega)
      have HA := Lib.hid hA; clear hA
      have hsh := take_shift b hi
      gi_upto_region 5 with fail
      dsimp only
      gi_cut [17] from 12 (fun s17 wx => s17 = .bool false ∧ W = wx)
      case first =>
        rcases hAw with h9' | ⟨h9', hb1⟩
        · gi_wp2; gi_meet; exact ⟨rfl, rfl⟩
        · have hng : ¬ (1 : Int) < (b.toNat : Int) := by omega
          have hd : decide ((1 : Int) < (b.toNat : Int)) = false := decide_eq_false hng
          gi_wp2; gi_meet; exact ⟨by simp, rfl⟩
      case rest =>
        obtain ⟨rfl, rfl⟩ := hcut
        clear hAw
        gi_upto_region 7 with fail
        gi_cut [] from 12 (fun wx => wx = (W.setCell ⟨w.heap.size + 3, 0, none⟩ (.int .u64 (orstep (accOf pre) (⟨i, hi⟩, b)))).drew)
        case first =>
          gi_region
          all_goals (gi_wp2; gi_meet; exact rfl)
        case rest =>
          subst hcut
          clear hsh
          have hon : 128 ≤ b.toNat → takeI w.heap.size (pre ++ [(⟨i, hi⟩, b)]) ((W.setCell ⟨w.heap.size + 3, 0, none⟩ (.int .u64 (orstep (accOf pre) (⟨i, hi⟩, b)))).drew) := fun h128 => takeOnV (b := w.heap.size) (x := (⟨i, hi⟩, b)) hgo ⟨h128, HA.out⟩ b0 b1 b2 b3
          have e0 : Boxed ((W.setCell ⟨w.heap.size + 3, 0, none⟩ (.int .u64 (orstep (accOf pre) (⟨i, hi⟩, b)))).drew) w.heap.size 44 (.int .u64 0) := boxed_set b0 _ (by omega)
          have e1 : Boxed ((W.setCell ⟨w.heap.size + 3, 0, none⟩ (.int .u64 (orstep (accOf pre) (⟨i, hi⟩, b)))).drew) (w.heap.size + 1) 3 (.int .i64 0) := boxed_set b1 _ (by omega)
          have e2 : Boxed ((W.setCell ⟨w.heap.size + 3, 0, none⟩ (.int .u64 (orstep (accOf pre) (⟨i, hi⟩, b)))).drew) (w.heap.size + 2) 27 (.int .i64 0) := boxed_set b2 _ (by omega)
          have e3 : Boxed ((W.setCell ⟨w.heap.size + 3, 0, none⟩ (.int .u64 (orstep (accOf pre) (⟨i, hi⟩, b)))).drew) (w.heap.size + 3) 44 (.int .u64 (orstep (accOf pre) (⟨i, hi⟩, b))) := b3.set _
          have hk : KeepsOthers W ((W.setCell ⟨w.heap.size + 3, 0, none⟩ (.int .u64 (orstep (accOf pre) (⟨i, hi⟩, b)))).drew) := (KeepsOthers.setCell _ _ _).trans (KeepsOthers.drew _)
          have hbl : Below w.heap.size W ((W.setCell ⟨w.heap.size + 3, 0, none⟩ (.int .u64 (orstep (accOf pre) (⟨i, hi⟩, b)))).drew) := Below.drew ((Below.refl w.heap.size W).setCell (p := ⟨w.heap.size + 3, 0, none⟩) (by simp) _)
          have hbx : KeepsBox (w.heap.size + 4) 9 (.string s) W ((W.setCell ⟨w.heap.size + 3, 0, none⟩ (.int .u64 (orstep (accOf pre) (⟨i, hi⟩, b)))).drew) := fun hx => boxed_set hx _ (by omega)
          generalize (W.setCell ⟨w.heap.size + 3, 0, none⟩ (.int .u64 (orstep (accOf pre) (⟨i, hi⟩, b)))).drew = W1 at *
          clear b0 b1 b2 b3 c0 c1 c2 c3 f0 f1 f2 f3
          have c0 := e0.cell; have c1 := e1.cell; have c2 := e2.cell; have c3 := e3.cell
          have f0 := e0.frozen; have f1 := e1.frozen; have f2 := e2.frozen; have f3 := e3.frozen
          by_cases h128 : 128 ≤ b.toNat
          · have hon' := hon h128
            clear hon
            gi_wp2
            exact ⟨hk, hbx, hon', hB.trans hbl⟩
          · have hge : ¬ (128 : Int) ≤ (b.toNat : Int) := by omega
            have hend : endsAt (⟨i, hi⟩, b) := .inr (by show b.toNat < 128; omega)
            clear hon
            by_cases h0 : b.toNat = 0 ∧ 0 < i
            · have hz' : ((b.toNat : Int) == 0) = true := by rw [h0.1]; rfl
              have hi0 : (0 : Int) < (i : Int) := by omega
              have ht : told (accOf pre) (⟨i, hi⟩, b) = (0, 0, 2) := by simp only [told]; rw [if_neg HA.out, if_pos h0]
              have HT := Lib.hid ht
              obtain ⟨q0, q1, q2, q3, q4⟩ := three_set e0 e1 e2 (.int .u64 0) (.int .i64 0) (.int .i64 2)
              clear ht h0
              gi_wp2
              exact ⟨hk.trans q3, ⟨rfl, pre, _, rfl, hgo, hend, by rw [HT.out]; exact q0, by rw [HT.out]; exact q1, by rw [HT.out]; exact q2⟩, hB.trans (hbl.trans q4)⟩
            · have ht : told (accOf pre) (⟨i, hi⟩, b) = (orstep (accOf pre) (⟨i, hi⟩, b), (i : Int) + 1, 0) := by simp only [told]; rw [if_neg HA.out, if_neg h0]
              have HT := Lib.hid ht
              obtain ⟨q0, q1, q2, q3, q4⟩ := three_set e0 e1 e2 (.int .u64 (orstep (accOf pre) (⟨i, hi⟩, b))) (.int .i64 ((i : Int) + 1)) (.int .i64 0)
              have hw : (((b.toNat : Int) == 0) = false) ∨ (((b.toNat : Int) == 0) = true ∧ ¬ (0 : Int) < (i : Int)) := by
                by_cases hz : b.toNat = 0
                · right; exact ⟨by rw [hz]; rfl, by omega⟩
                · left; exact beq_eq_false_iff_ne.2 (by omega)
              clear ht h0
              rcases hw with hw | ⟨hw, hw2⟩
              all_goals
                gi_wp2
                exact ⟨hk.trans q3, ⟨rfl, pre, _, rfl, hgo, hend, by rw [HT.out]; exact q0, by rw [HT.out]; exact q1, by rw [HT.out]; exact q2⟩, hB.trans (hbl.trans q4)⟩
  case done =>
    rintro D xs W hD rfl ⟨⟨hgo, b0, b1, b2, b3⟩, hB⟩ hK
    have c0 := b0.cell; have c1 := b1.cell; have c2 := b2.cell
    have f0 := b0.frozen; have f1 := b1.frozen; have f2 := b2.frozen
    obtain ⟨q0, q1, q2, q3, q4⟩ := three_set b0 b1 b2 (.int .u64 0) (.int .i64 0) (.int .i64 1)
    have HT := Lib.hid (take_done hgo)
    clear hB0 hs0 hs0' hI0 hgo
    gi_wp2
    have hK' := q3.same D _ hK rfl
    refine ⟨by simp, .inl ⟨_, _, rfl, run_takeDeferred hK', ?_⟩⟩
    have d0 := cell_kept q0.cell (grownBy_putObj' _ D (.deferred none)) (fun r e => by cases e; exact ⟨_, hK', rfl⟩)
    have d1 := cell_kept q1.cell (grownBy_putObj' _ D (.deferred none)) (fun r e => by cases e; exact ⟨_, hK', rfl⟩)
    have d2 := cell_kept q2.cell (grownBy_putObj' _ D (.deferred none)) (fun r e => by cases e; exact ⟨_, hK', rfl⟩)
    refine ⟨.tuple #[.int .u64 0, .int .i64 0, .int .i64 1], ?_, by rw [HT.out]; rfl, ((hB.trans q4).trans (belowK_b (w := w) (Nat.le_refl _) _ D _ _ (by simp at hD; omega) hK' rfl rfl))⟩
    simp [results, Tryd.f58, go_sem, d0, d1, d2]
  case stop =>
    rintro D c pre W hD hpre ⟨⟨rfl, p, x, hpx, hgo, hend, q0, q1, q2⟩, hB⟩ hK
    have HT := Lib.hid (take_end (by rw [← hpx]; exact hpre) hgo hend)
    clear hB0 hs0 hs0' hI0 hgo hend hpre hpx
    gi_wp2
    refine ⟨by simp, .inl ⟨_, _, rfl, run_takeDeferred hK, ?_⟩⟩
    have d0 := cell_kept q0.cell (grownBy_putObj' _ D (.deferred none)) (fun r e => by cases e; exact ⟨_, hK, rfl⟩)
    have d1 := cell_kept q1.cell (grownBy_putObj' _ D (.deferred none)) (fun r e => by cases e; exact ⟨_, hK, rfl⟩)
    have d2 := cell_kept q2.cell (grownBy_putObj' _ D (.deferred none)) (fun r e => by cases e; exact ⟨_, hK, rfl⟩)
    refine ⟨.tuple #[.int .u64 (told (accOf p) x).1, .int .i64 (told (accOf p) x).2.1, .int .i64 (told (accOf p) x).2.2], ?_, told_eq HT.out, (hB.trans (belowK_b (w := w) (Nat.le_refl _) W D _ _ (by simp at hD; omega) hK rfl rfl))⟩
    clear HT
    generalize told (accOf p) x = y at *
    simp [results, Tryd.f58, go_sem, d0, d1, d2]
end Go.Proofs.YtohicccbaenegaaDoor

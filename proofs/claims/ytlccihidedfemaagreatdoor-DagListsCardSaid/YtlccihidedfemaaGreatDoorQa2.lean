/-
  Texts put together: contracts and laws that this seat's proofs share.
-/
import Derived.Test.YtlccihidedfemaaGreatDoorQa1
import Derived.Deep.LoopGhost
import Derived.Orders
import Derived.Still
import Derived.Handy
import Derived.Test.YtlccihidedfemaaGreatDoorQa0
import Derived.Shelf.Abstract
import Derived.OrdersIn
import Derived.TacticsIn
import Derived.RangeFuncCalls
import Derived.RangeFuncNested
import Derived.RangeFuncBound
import Derived.RangeFuncLeaves
import Derived.RangeFuncBox
import Derived.Lib.OthersKept
import Derived.Shelf.Strings.BuilderK
import Derived.RegionTactic
import Derived.ChangeAlike
import Derived.WalkKit
import Derived.Test.YtlccihidedfemaaGreatDoorProg
import Derived.Shelf.Strconv.Clone
import Derived.LoopTactic
import Derived.OwnWalk
import Derived.Laws.AppendOwn
import Derived.Laws.IdiomStrings
import Derived.Outline
import Derived.Lib.Hide
import Derived.Shelf.RegionOpen
import Derived.OwnWalkIn
import Derived.TacticsInMore
import Derived.LoopNIn
import Derived.LoopIn
import Derived.BigRegionIn
import Derived.Sort.CutIn
import Derived.Laws.BitsAllLaws
import Derived.Below
import Derived.Laws.Rows
import Derived.Laws.CopyOwn
import Derived.Great.BuildSlice
import Derived.BigRegion
set_option linter.unusedVariables false
namespace Go.Proofs.YtlccihidedfemaaGreatDoor
open Go.RowKit Go.Shelf
attribute [local go_sem] Oper.semAt_some
theorem quo_few (n : Nat) (h2 : 2 ≤ n) (h8 : n ≤ 8) : ¬ (9223372036854775807 : Int) / ((n : Int) - 1) ≤ 1 := by
  rcases (show n = 2 ∨ n = 3 ∨ n = 4 ∨ n = 5 ∨ n = 6 ∨ n = 7 ∨ n = 8 by omega) with rfl | rfl | rfl | rfl | rfl | rfl | rfl <;> decide
set_option maxRecDepth 100000 in
set_option maxHeartbeats 4000000 in
theorem slJoin_any (v : Value) (L : List ByteArray) (w : World) (hv : IsStrs w v L) (h8 : L.length ≤ 8) (h31 : ∀ x ∈ L, 1 ≤ x.size ∧ x.size ≤ 31) :
    Calls Tryz.prog 118 #[v, .string ⟨#[47]⟩] w fun e w' => e = .returned (.string ⟨(joinS (txts L)).toArray⟩) ∧ Below w.heap.size w w' := by
  match L, hv, h8, h31 with
  | [], hv, _, _ =>
    obtain ⟨hm, a, cap, rfl, _, hc⟩ := hv
    clear hc
    go_enter Tryz.func118, Tryz.ntmps118
    go_wp2
    go_ret
    exact ⟨rfl, Below.refl _ _⟩
  | [x], hv, _, _ =>
    obtain ⟨hm, a, cap, rfl, _, hc⟩ := hv
    obtain ⟨b, o, rfl, hlt, g⟩ := hc (Nat.zero_lt_one)
    have q := g 0 (Nat.zero_lt_one)
    simp only [Nat.add_zero, List.getElem_cons_zero] at q
    have HX : Hid (x = ⟨(joinS (txts [x])).toArray⟩) := str_of (by simp [txts, joinS])
    clear hc g
    go_enter Tryz.func118, Tryz.ntmps118
    go_wp2
    go_ret
    exact ⟨by rw [← HX.out]; rfl, Below.refl _ _⟩
  | x :: y :: T, hv, h8, h31 =>
    obtain ⟨tv, htail, htv⟩ := strs_tail hv
    have HTV := Lib.hid htv; have HTA := Lib.hid htail; have H31 := Lib.hid h31
    have H0 := Lib.hid hv
    clear htv htail hv h31
    have HLT : Hid ((x :: y :: T).length = (y :: T).length + 1) := rfl
    have h2 : 2 ≤ (x :: y :: T).length := by simp
    obtain ⟨L, hL⟩ : ∃ L, L = x :: y :: T := ⟨_, rfl⟩
    obtain ⟨U, hU⟩ : ∃ U, U = y :: T := ⟨_, rfl⟩
    rw [← hL] at H31 H0 HLT h2 h8 ⊢
    rw [← hU] at HLT HTV
    have HLU : Hid (L = x :: U) := by show _ = _; rw [hL, hU]
    clear hL hU
    obtain ⟨hm, a, cap, hve, _, hc⟩ := H0.out
    subst hve
    obtain ⟨b, o, rfl, hblt, g⟩ := hc (by omega)
    have HG := Lib.hid g
    have hqf := quo_few L.length h2 h8
    have q0 := g 0 (by omega)
    have hx0 : L[0]'(by omega) = x := by simp [HLU.out]
    rw [hx0, Nat.add_zero] at q0
    have hx1 : 1 ≤ x.size ∧ x.size ≤ 31 := H31.out x (by rw [HLU.out]; exact List.mem_cons_self ..)
    obtain ⟨hx1, hx2⟩ := hx1
    clear hc g hm hx0 H0
    go_enter Tryz.func118, Tryz.ntmps118
    go_wp2_with fail
    go_loop [5, 41] (fun n i => ∃ (q k : Nat), k ≤ L.length ∧ 1 ≤ q ∧ q ≤ 7 + 31 * k ∧ n = .int .i64 q ∧ i = .int .i64 k) (fun _ i => L.length - (intOf i).toNat)
    case atStart => exact ⟨L.length - 1, 0, Nat.zero_le _, by omega, by omega, val_i (by omega), rfl⟩
    case round =>
      obtain ⟨q, k, hk, hq1, hq2, rfl, rfl⟩ := hrel
      by_cases hlt : k < L.length
      · have q1 := HG.out k hlt
        have hy := H31.out L[k] (List.getElem_mem hlt)
        obtain ⟨z, hz⟩ : ∃ z, z = L[k] := ⟨_, rfl⟩
        rw [← hz] at q1 hy
        clear hz q0 hqf
        have hbk : decide ((k : Int) < (L.length : Int)) = true := by simpa using (show (k : Int) < L.length by omega)
        have hng : ¬ (9223372036854775807 : Int) - (q : Int) < (z.size : Int) := by omega
        go_wp2_with fail
        go_round
        case rel => exact ⟨q + z.size, k + 1, by omega, by omega, by omega, val_i (by omega), by go_num⟩
        case measure => simp [intOf]; omega
      · obtain rfl : k = L.length := by omega
        clear hqf
        go_wp2_with fail
        have b0 : Below w.heap.size w (w.alloc (.cells #[.pointer none, .slice none 0 0] 154)) := (Below.refl _ w).alloc (Nat.le_refl _) _
        refine (Grow_fresh w.heap.size w.heap.size q _ (Nat.le_refl _) (heap_alloc_new _ _) b0.size (by omega) (by omega)).mono ?_
        rintro e W1 ⟨rfl, hA, hbg⟩
        have b1 := b0.trans hbg
        have HA := Lib.hid hA
        have q2 := (b1.cell (p := ⟨b, o, none⟩) hblt).trans q0
        clear hA b0 hbg q0
        go_wp2_with fail
        refine (WriteString_k w.heap.size w.heap.size [] x _ (Lib.IsBuilderF.of (Or.inr HA.out)) (by simp only [List.length_nil]; omega) b1.size).mono ?_
        rintro e W2 ⟨rfl, h2', hb2', _⟩
        have b2 := b1.trans hb2'
        have HB2 : Hid (Lib.IsBuilderF 154 5 w.heap.size w.heap.size (Lib.byteCells (joinS ((txts L).take 1))) W2) := by
          have e1 : (txts L).take 1 = [x.data.toList] := by rw [HLU.out]; rfl
          rw [e1]
          rw [List.nil_append, Lib.strCells_eq] at h2'
          exact Or.inr h2'
        clear HA b1 hb2' h2' q2
        have htv := HTV.out
        obtain ⟨hum, a', cap', rfl, _, huc⟩ := htv
        have htail := HTA.out
        have HUC := Lib.hid huc
        have HLU2 := Lib.hid (txts_len L)
        have hul : U.length ≤ 7 := by have := HLT.out; omega
        clear hum huc
        go_wp2_with fail
        go_loopw [65] (fun i wx => ∃ j : Nat, j ≤ U.length ∧ i = .int .i64 j ∧ Lib.IsBuilderF 154 5 w.heap.size w.heap.size (Lib.byteCells (joinS ((txts L).take (j + 1)))) wx ∧ (joinS ((txts L).take (j + 1))).length ≤ 32 * (j + 1) ∧ joinS ((txts L).take (j + 1)) ≠ [] ∧ Below w.heap.size w wx) (fun i _ => U.length - (intOf i).toNat)
        case atStart =>
          refine ⟨0, Nat.zero_le _, rfl, HB2.out, ?_, ?_, b2⟩
          · rw [HLU.out]; show x.data.toList.length ≤ _; rw [← Lib.size_eq]; omega
          · rw [HLU.out]; show x.data.toList ≠ []; intro e; have := hx1; rw [Lib.size_eq, e] at this; simp at this
        case round =>
          obtain ⟨j, hj, rfl, hB, hjl, hjn, hbx⟩ := hrel
          have HB := Lib.hid hB; have HJN := Lib.hid hjn
          clear hB hjn htail HB2 b2
          have hLU := HLT.out
          by_cases hlt2 : j < U.length
          · obtain ⟨b', o', rfl, hblt', g'⟩ := HUC.out (by omega)
            have q3 := (hbx.cell (p := ⟨b', o' + j, none⟩) hblt').trans (g' j hlt2)
            have hy : 1 ≤ U[j].size ∧ U[j].size ≤ 31 := H31.out _ (by rw [HLU.out]; exact List.mem_cons_of_mem _ (List.getElem_mem hlt2))
            have hin : (txts L)[j + 1]'(by rw [HLU2.out]; omega) = U[j].data.toList := by rw [txts_get (by omega)]; simp [HLU.out]
            obtain ⟨z, hz⟩ : ∃ z, z = U[j] := ⟨_, rfl⟩
            rw [← hz] at q3 hy hin
            have hstep := joinS_take (L := txts L) (k := j + 1) (by rw [HLU2.out]; omega) (by omega)
            rw [hin] at hstep
            have HST := Lib.hid hstep
            have hbk : decide ((j : Int) < (U.length : Int)) = true := by simpa using (show (j : Int) < U.length by omega)
            clear hz g' hin hstep hLU
            go_wp2_with fail
            refine (WriteString_k w.heap.size w.heap.size _ ⟨#[47]⟩ _ HB.out (by rw [Lib.byteCells_length]; show _ + 1 ≤ _; omega) hbx.size).mono ?_
            rintro e W3 ⟨rfl, h3, hb3, _⟩
            have hbx3 := hbx.trans hb3
            have H3 := Lib.hid (Or.inr h3 : Lib.IsBuilderF _ _ _ _ _ W3)
            clear q3 h3
            go_wp2_with fail
            refine (WriteString_k w.heap.size w.heap.size _ z _ H3.out (by rw [List.length_append, Lib.byteCells_length, Lib.strCells_eq, Lib.byteCells_length]; show _ + 1 + _ ≤ _; omega) hbx3.size).mono ?_
            rintro e W4 ⟨rfl, h4, hb4, _⟩
            have hbx4 := hbx3.trans hb4
            have e4 : Lib.byteCells (joinS ((txts L).take (j + 1))) ++ Lib.strCells ⟨#[47]⟩ ++ Lib.strCells z = Lib.byteCells (joinS ((txts L).take (j + 1 + 1))) := by
              rw [HST.out, Lib.strCells_eq, Lib.strCells_eq, ← Lib.byteCells_append, ← Lib.byteCells_append]
              congr 1
              simp
            rw [e4] at h4
            have H4 := Lib.hid (Or.inr h4 : Lib.IsBuilderF _ _ _ _ _ W4)
            clear h4 e4 hbx3 hb3 hb4 H3
            go_wp2_with fail
            go_roundw
            case rel =>
              refine ⟨j + 1, by omega, by go_num, H4.out, ?_, ?_, hbx4⟩
              · rw [HST.out, List.length_append, List.length_cons, ← Lib.size_eq]; omega
              · rw [HST.out]; simp
            case measure => simp [intOf]; omega
          · obtain rfl : j = U.length := by omega
            have hall : (txts L).take (U.length + 1) = txts L := List.take_of_length_le (by rw [HLU2.out]; omega)
            rw [hall] at HB HJN
            have CS := Lib.hid (String_full_k_Bup w.heap.size w.heap.size _ wr HB.out HJN.out)
            have hbk : decide ((U.length : Int) < (U.length : Int)) = false := by simp
            clear hall hLU
            go_wp2_with fail
            refine CS.out.mono ?_
            rintro e W5 ⟨rfl, h5, hb5, _⟩
            go_wp2_with fail
            go_ret
            exact ⟨rfl, hbx.trans hb5⟩
end Go.Proofs.YtlccihidedfemaaGreatDoor
namespace Go.Proofs.YtlccihidedfemaaGreatDoor
open Go
section
variable {P : Program} {ops : Array Oper} {Q : Exit → Act → World → Prop}
def predsOf (ops : Array Oper) (i : Nat) : List Nat := ((ops[i]?).map fun o => (o.after.toList.filter (Region.binds .any)).map (·.on)).getD []
def ancOf (ops : Array Oper) : Nat → Nat → List Nat
  | 0, _ => []
  | f + 1, i => predsOf ops i ++ (predsOf ops i).flatMap (ancOf ops f)
theorem anc_listed {listed : Array Bool} (hc : ∀ k, listed.getD k false = true → ∀ j ∈ predsOf ops k, listed.getD j false = true) : ∀ (f i : Nat), (∀ j ∈ predsOf ops i, listed.getD j false = true) → ∀ k ∈ ancOf ops f i, listed.getD k false = true
  | 0, _, _, k, hk => by cases hk
  | f + 1, i, hp, k, hk => by
    rw [ancOf, List.mem_append, List.mem_flatMap] at hk
    rcases hk with hk | ⟨j, hj, hk⟩
    · exact hp k hk
    · exact anc_listed hc f j (hc j (hp j hj)) k hk
def relyB (ops : Array Oper) (n : Nat) : Bool :=
  (List.range ops.size).all fun i => (predsOf ops i).all (· < i) && ((ops[i]?).map (·.guard.isNone)).getD false &&
    (((ops[i]?).bind (·.dst)).map fun t => decide (t < n) && (List.range ops.size).all fun k => k == i || !(((ops[k]?).bind (·.dst)) == some t)).getD true
def slot (a : Act) (t : Tmp) : Value := a.tmps.getD t undef
theorem slot_put_same (a : Act) (t : Tmp) (v : Value) (h : t < a.tmps.size) : slot (a.put (some t) v) t = v := by
  simp [slot, Act.put, h]
theorem slot_put_other (a : Act) (d : Option Tmp) (t : Tmp) (v : Value) (h : d ≠ some t) : slot (a.put d v) t = slot a t := by
  cases d with
  | none => rfl
  | some d =>
    have h' : d ≠ t := fun e => h (by rw [e])
    simp [slot, Act.put, h']
theorem size_put (a : Act) (d : Option Tmp) (v : Value) : (a.put d v).tmps.size = a.tmps.size := by
  cases d <;> simp [Act.put]
theorem defers_put (a : Act) (d : Option Tmp) (v : Value) : (a.put d v).defers = a.defers := by
  cases d <;> simp [Act.put]
def keptB (n : Nat) (needs : Nat → List Nat) (last : List Nat) (i k : Nat) : Bool := last.contains k || (List.range n).any fun j => j != i && (needs j).contains k
def dstOf (ops : Array Oper) (i : Nat) : Option Tmp := (ops[i]?).bind (·.dst)
def leanB (ops : Array Oper) (m : Nat) (needs : Nat → List Nat) (last : List Nat) (dep : Nat → List Tmp) : Bool :=
  (List.range ops.size).all fun i => ((needs i).all fun k => decide (ops.size ≤ k) || (ancOf ops 3 i).contains k) &&
    (List.range m).all fun k => k == i || (ancOf ops 3 k).contains i || !keptB ops.size needs last i k || ((dstOf ops i).map fun t => !(dep k).contains t).getD true
def keptA (ops : Array Oper) (needs : Nat → List Nat) (last : List Nat) (i k : Nat) : Bool := last.contains k || (List.range ops.size).any fun j => j != i && !(ancOf ops 3 i).contains j && (needs j).contains k
def leanA (ops : Array Oper) (m : Nat) (needs : Nat → List Nat) (last : List Nat) (dep : Nat → List Tmp) : Bool :=
  (List.range ops.size).all fun i => ((needs i).all fun k => decide (ops.size ≤ k) || (ancOf ops 3 i).contains k) &&
    (List.range m).all fun k => k == i || (ancOf ops 3 k).contains i || !keptA ops needs last i k || ((dstOf ops i).map fun t => !(dep k).contains t).getD true
theorem kept_of_A {ops : Array Oper} {needs : Nat → List Nat} {last : List Nat} {i k : Nat} (h : keptA ops needs last i k = true) : keptB ops.size needs last i k = true := by
  unfold keptA at h
  unfold keptB
  rw [Bool.or_eq_true] at h ⊢
  refine h.imp (fun h => h) fun h => ?_
  rw [List.any_eq_true] at h ⊢
  obtain ⟨j, h1, h2⟩ := h
  simp only [Bool.and_eq_true] at h2 ⊢
  exact ⟨j, h1, h2.1.1, h2.2⟩
theorem lean_A {ops : Array Oper} {m : Nat} {needs : Nat → List Nat} {last : List Nat} {dep : Nat → List Tmp} (h : leanB ops m needs last dep = true) : leanA ops m needs last dep = true := by
  unfold leanB at h
  unfold leanA
  rw [List.all_eq_true] at h ⊢
  intro i hi
  have h1 := h i hi
  rw [Bool.and_eq_true] at h1 ⊢
  refine ⟨h1.1, ?_⟩
  have h2 := h1.2
  rw [List.all_eq_true] at h2 ⊢
  intro k hk
  have h3 := h2 k hk
  cases ha : keptA ops needs last i k with
  | false => simp
  | true => rw [kept_of_A ha] at h3; exact h3
structure RelyInv (ops : Array Oper) (m : Nat) (a0 : Act) (G : World → Prop) (V : Nat → Act → World → Prop) (needs : Nat → List Nat) (last : List Nat) (listed : Array Bool) (a : Act) (w : World) : Prop where
  g : G w
  defers : a.defers = a0.defers
  size : a.tmps.size = a0.tmps.size
  len : listed.size = ops.size
  val : ∀ k, k < m → (ops.size ≤ k ∨ listed.getD k false = true) → (k ∈ last ∨ ∃ j, j < ops.size ∧ listed.getD j false = false ∧ k ∈ needs j) → V k a w
  old : ∀ t, (∀ k, dstOf ops k = some t → listed.getD k false = false) → slot a t = slot a0 t
  closed : ∀ k, listed.getD k false = true → ∀ j ∈ predsOf ops k, listed.getD j false = true
theorem ready_spec {listed : Array Bool} {i : Nat} (h : i ∈ Region.ready .any ops listed) (hl : listed.size = ops.size) : i < ops.size ∧ listed.getD i false = false ∧ ∀ j ∈ predsOf ops i, listed.getD j false = true := by
  unfold Region.ready at h
  rw [List.mem_filter, List.mem_range] at h
  obtain ⟨hi, h2⟩ := h
  simp only [Bool.and_eq_true, Bool.not_eq_true'] at h2
  obtain ⟨h2, h3⟩ := h2
  refine ⟨hi, ?_, ?_⟩
  · have hil : i < listed.size := by omega
    simpa [Array.getD, hil] using h2
  · intro j hj
    unfold predsOf at hj
    rw [Array.getElem?_eq_getElem hi] at hj h3
    simp only [Option.map_some, Option.getD_some, List.mem_map, List.mem_filter] at hj h3
    obtain ⟨e, ⟨he, hb⟩, rfl⟩ := hj
    rw [Array.all_eq_true_iff_forall_mem] at h3
    have := h3 e (by simpa using he)
    simpa [hb] using this
theorem ready_of {listed : Array Bool} {i : Nat} (hi : i < ops.size) (hl : listed.size = ops.size) (h0 : listed.getD i false = false) (hp : ∀ j ∈ predsOf ops i, listed.getD j false = true) : i ∈ Region.ready .any ops listed := by
  unfold Region.ready
  rw [List.mem_filter, List.mem_range]
  refine ⟨hi, ?_⟩
  simp only [Bool.and_eq_true, Bool.not_eq_true']
  refine ⟨?_, ?_⟩
  · have hil : i < listed.size := by omega
    simpa [Array.getD, hil] using h0
  · rw [Array.getElem?_eq_getElem hi]
    simp only [Option.map_some, Option.getD_some]
    rw [Array.all_eq_true_iff_forall_mem]
    intro e he
    by_cases hb : Region.binds .any e = true
    · have := hp e.on (by unfold predsOf; rw [Array.getElem?_eq_getElem hi]; simp only [Option.map_some, Option.getD_some, List.mem_map, List.mem_filter]; exact ⟨e, ⟨by simpa using he, hb⟩, rfl⟩)
      simp [hb, this]
    · simp [hb]
def unl (n : Nat) (listed : Array Bool) : Nat := (List.range n).countP fun i => !listed.getD i false
theorem unl_zero {n : Nat} {listed : Array Bool} (h : unl n listed = 0) (i : Nat) (hi : i < n) : listed.getD i false = true := by
  unfold unl at h
  rw [List.countP_eq_zero] at h
  have := h i (List.mem_range.2 hi)
  simpa using this
theorem getD_set (listed : Array Bool) (i j : Nat) (hi : i < listed.size) : (listed.setIfInBounds i true).getD j false = if j = i then true else listed.getD j false := by
  by_cases h : j = i
  · subst h; simp [hi]
  · have h' : i ≠ j := fun e => h e.symm
    simp [h, h']
theorem countP_flip {l : List Nat} (hn : l.Nodup) {p q : Nat → Bool} {i : Nat} (hi : i ∈ l) (hp : p i = true) (hq : q i = false) (he : ∀ j, j ≠ i → q j = p j) : l.countP p = l.countP q + 1 := by
  induction l with
  | nil => cases hi
  | cons x l ih =>
    rw [List.nodup_cons] at hn
    rw [List.countP_cons, List.countP_cons]
    by_cases hx : x = i
    · subst hx
      have : l.countP p = l.countP q := List.countP_congr fun j hj => by rw [he j (fun e => hn.1 (e ▸ hj))]
      simp [hp, hq, this]
    · rcases List.mem_cons.1 hi with h | h
      · exact absurd h.symm hx
      · have := ih hn.2 h
        rw [he x hx]; omega
theorem unl_set {n : Nat} {listed : Array Bool} {i : Nat} (hi : i < n) (hs : i < listed.size) (h0 : listed.getD i false = false) : unl n listed = unl n (listed.setIfInBounds i true) + 1 := by
  unfold unl
  refine countP_flip List.nodup_range (List.mem_range.2 hi) (by simpa using h0) (by rw [getD_set _ _ _ hs]; simp) fun j hj => ?_
  rw [getD_set _ _ _ hs, if_neg hj]
theorem all_listed {listed : Array Bool} (hl : listed.size = ops.size) (hord : ∀ i, i < ops.size → ∀ j ∈ predsOf ops i, j < i) (hr : Region.ready .any ops listed = []) : ∀ i, i < ops.size → listed.getD i false = true := by
  intro i
  induction i using Nat.strongRecOn with
  | ind i ih =>
    intro hi
    by_cases h : listed.getD i false = true
    · exact h
    · exfalso
      have := ready_of hi hl (by simpa using h) (fun j hj => ih j (hord i hi j hj) (Nat.lt_trans (hord i hi j hj) hi))
      rw [hr] at this
      cases this
def AllFrom (S : Nat → Oper → Prop) : Nat → List Oper → Prop
  | _, [] => True
  | n, o :: l => S n o ∧ AllFrom S (n + 1) l
theorem allFrom_get {S : Nat → Oper → Prop} : ∀ {l : List Oper} {n : Nat}, AllFrom S n l → ∀ i (hi : i < l.length), S (n + i) l[i]
  | _ :: _, _, h, 0, _ => h.1
  | _ :: l, n, h, i + 1, hi => by
    have := allFrom_get h.2 i (by simpa using hi)
    rw [Nat.add_assoc, Nat.add_comm 1 i] at this
    exact this
theorem forall_ops {S : Nat → Oper → Prop} {l : List Oper} (h : AllFrom S 0 l) : ∀ i (hi : i < l.toArray.size), S i (l.toArray[i]) := fun i hi => by
  have := allFrom_get h i (by simpa using hi)
  rw [Nat.zero_add] at this
  simpa using this
def oldB (ops : Array Oper) (i : Nat) (t : Tmp) : Bool := (List.range ops.size).all fun k => !(dstOf ops k == some t) || (predsOf ops k).contains i
theorem old_of {i : Nat} {t : Tmp} (h : oldB ops i t = true) : ∀ k, dstOf ops k = some t → i ∈ predsOf ops k := fun k hk => by
  have hkl : k < ops.size := by
    rcases Nat.lt_or_ge k ops.size with h | h
    · exact h
    · unfold dstOf at hk; rw [Array.getElem?_eq_none h] at hk; cases hk
  have := (List.all_eq_true.1 h) k (List.mem_range.2 hkl)
  rw [hk] at this
  simpa using this
theorem wp_value {o : Oper} {a : Act} {w w' : World} {v : Value} {K : Act → World → Prop} (h : (execOp a.eval o).run P w = .ok (.value v) w') (hk : K (a.put o.dst v) w') : o.wp P a w K Q := by
  unfold Oper.wp; rw [h]; exact hk
theorem wp_skip {o : Oper} {a : Act} {w w' : World} {K : Act → World → Prop} (h : (execOp a.eval o).run P w = .ok .skip w') (hk : K (a.put o.dst undef) w') : o.wp P a w K Q := by
  unfold Oper.wp; rw [h]; exact hk
def patchL (ds : List Tmp) (s : Tmp → Value) : Nat → List Value → List Value
  | _, [] => []
  | t, v :: l => (if ds.contains t then s t else v) :: patchL ds s (t + 1) l
theorem patchL_get (ds : List Tmp) (s : Tmp → Value) : ∀ (l : List Value) (n i : Nat), (patchL ds s n l)[i]? = (l[i]?).map fun v => if ds.contains (n + i) then s (n + i) else v
  | [], _, _ => by simp [patchL]
  | v :: l, n, 0 => by simp [patchL]
  | v :: l, n, i + 1 => by
    rw [patchL, List.getElem?_cons_succ, patchL_get ds s l (n + 1) i, List.getElem?_cons_succ, Nat.add_assoc, Nat.add_comm 1 i]
theorem act_patch {a a0 : Act} (ds : List Tmp) (hS : a.tmps.size = a0.tmps.size) (hD : a.defers = a0.defers) (h : ∀ t, t ∉ ds → slot a t = slot a0 t) : a = ⟨(patchL ds (slot a) 0 a0.tmps.toList).toArray, a0.defers⟩ := by
  obtain ⟨tm, df⟩ := a
  obtain ⟨tm0, df0⟩ := a0
  simp only at hS hD
  subst hD
  congr 1
  apply Array.ext_getElem?
  intro i
  simp only [List.getElem?_toArray, patchL_get, Nat.zero_add, Array.getElem?_toList]
  by_cases hi : i < tm.size
  · have hi0 : i < tm0.size := by omega
    rw [Array.getElem?_eq_getElem hi, Array.getElem?_eq_getElem hi0]
    simp only [Option.map_some, Option.some.injEq]
    split
    · simp [slot, hi]
    · rename_i hc
      have := h i (by simpa using hc)
      simpa [slot, hi, hi0] using this
  · rw [Array.getElem?_eq_none (by omega), Array.getElem?_eq_none (by omega)]; rfl
def dstsOf (ops : Array Oper) : List Tmp := (List.range ops.size).filterMap (dstOf ops)
theorem free_of {t : Tmp} (h : t ∉ dstsOf ops) : ∀ k : Nat, dstOf ops k ≠ some t := fun k hk => by
  refine h (List.mem_filterMap.2 ⟨k, ?_, hk⟩)
  rw [List.mem_range]
  rcases Nat.lt_or_ge k ops.size with h | h
  · exact h
  · unfold dstOf at hk; rw [Array.getElem?_eq_none h] at hk; cases hk
theorem eval_slot (a : Act) (t : Tmp) : a.eval (.tmp t) = slot a t := rfl
theorem wp_region_relyA {id : Nat} {a0 : Act} {w0 : World} (hm : P.follows .mixedOrders = true) (hB : relyB ops a0.tmps.size = true) (T : Nat → World → World → Prop) (G : World → Prop) (V : Nat → Act → World → Prop)
    (m : Nat) (needs : Nat → List Nat) (last : List Nat) (dep : Nat → List Tmp) (hL : leanA ops m needs last dep = true) (hneeds : ∀ i k, k ∈ needs i → k < m)
    (hdep : ∀ k a a' w, k < m → (∀ t ∈ dep k, slot a' t = slot a t) → V k a w → V k a' w)
    (hT : ∀ i k a w w', i < ops.size → k < m → k ≠ i → keptA ops needs last i k = true → V k a w → T i w w' → V k a w')
    (hG : G { w0 with drawn := w0.drawn + 1 }) (hV0 : ∀ k, k < m → ops.size ≤ k → V k a0 { w0 with drawn := w0.drawn + 1 })
    (step : ∀ i (hi : i < ops.size) a w, G w → (∀ k ∈ needs i, V k a w) → (∀ t, (∀ k, dstOf ops k = some t → i ∈ predsOf ops k) → slot a t = slot a0 t) → a.tmps.size = a0.tmps.size →
      (ops[i]).wp P a w (fun a' w' => ∃ v, a' = a.put (ops[i]).dst v ∧ T i w w' ∧ G w' ∧ V i a' w') Q)
    (done : ∀ a w, G w → (∀ k ∈ last, k < m → V k a w) → (∀ t, (∀ k : Nat, dstOf ops k ≠ some t) → slot a t = slot a0 t) → a.tmps.size = a0.tmps.size → a.defers = a0.defers → Q .normal a w) :
    (Code.region id ops true).wp P Q a0 w0 := by
  have hB' : ∀ i, i < ops.size → ((∀ j ∈ predsOf ops i, j < i) ∧ ((ops[i]?).map (·.guard.isNone)).getD false = true) ∧
      (((ops[i]?).bind (·.dst)).map fun t => decide (t < a0.tmps.size) && (List.range ops.size).all fun k => k == i || !(((ops[k]?).bind (·.dst)) == some t)).getD true = true := by
    intro i hi
    have := (List.all_eq_true.1 hB) i (List.mem_range.2 hi)
    simp only [Bool.and_eq_true] at this
    obtain ⟨⟨h1, h2⟩, h3⟩ := this
    exact ⟨⟨fun j hj => by simpa using (List.all_eq_true.1 h1) j hj, h2⟩, h3⟩
  have hL' : ∀ i, i < ops.size → (∀ k ∈ needs i, ops.size ≤ k ∨ k ∈ ancOf ops 3 i) ∧ ∀ k, k < m → k ≠ i → i ∉ ancOf ops 3 k → keptA ops needs last i k = true → ∀ t, dstOf ops i = some t → t ∉ dep k := by
    intro i hi
    have := (List.all_eq_true.1 hL) i (List.mem_range.2 hi)
    rw [Bool.and_eq_true] at this
    obtain ⟨h1, h2⟩ := this
    refine ⟨fun k hk => by simpa using (List.all_eq_true.1 h1) k hk, fun k hk hki hip hke t ht => ?_⟩
    have h3 := (List.all_eq_true.1 h2) k (List.mem_range.2 hk)
    have hip' : (ancOf ops 3 k).contains i = false := by simpa using hip
    have hki' : (k == i) = false := by simpa using hki
    rw [hke, hip', hki', ht] at h3
    simpa using h3
  have key : ∀ fuel listed a w, unl ops.size listed ≤ fuel → RelyInv ops m a0 G V needs last listed a w → wpAny P .any ops Q fuel listed a w := by
    intro fuel
    have fin : ∀ listed a w, RelyInv ops m a0 G V needs last listed a w → (∀ i, i < ops.size → listed.getD i false = true) → Q .normal a w := fun listed a w I hall =>
      done a w I.g (fun k hk hkm => I.val k hkm (by
        rcases Nat.lt_or_ge k ops.size with h | h
        · exact .inr (hall k h)
        · exact .inl h) (.inl hk)) (fun t ht => I.old t fun k hk => absurd hk (ht k)) I.size I.defers
    induction fuel with
    | zero =>
      intro listed a w hu I
      have hall := fun i hi => unl_zero (Nat.le_zero.1 hu) i hi
      refine ⟨?_, fin listed a w I hall⟩
      apply List.eq_nil_iff_forall_not_mem.2
      intro i hi
      obtain ⟨h1, h2, _⟩ := ready_spec hi I.len
      rw [hall i h1] at h2; cases h2
    | succ fuel ih =>
      intro listed a w hu I
      refine ⟨fun hr => fin listed a w I (all_listed I.len (fun i hi => (hB' i hi).1.1) hr), fun i hi => ?_⟩
      obtain ⟨h1, h2, h3⟩ := ready_spec hi I.len
      have hil : i < listed.size := by rw [I.len]; exact h1
      have hst := step i h1 a w I.g (fun k hk => I.val k (hneeds i k hk) (((hL' i h1).1 k hk).imp (fun h => h) (anc_listed I.closed 3 i h3 k)) (.inr ⟨i, h1, h2, hk⟩)) (fun t ht => I.old t fun k hk => by
        by_cases hc : listed.getD k false = true
        · have := I.closed k hc i (ht k hk)
          rw [h2] at this; cases this
        · simpa using hc) I.size
      unfold wpOp
      rw [Array.getElem?_eq_getElem h1]
      have hg := (hB' i h1).1.2
      rw [Array.getElem?_eq_getElem h1] at hg
      simp only [Option.map_some, Option.getD_some, Option.isNone_iff_eq_none] at hg
      have hw : Region.wanted ops[i] (yielded ops a.tmps) = true := by unfold Region.wanted; rw [hg]
      simp only [hw, if_true]
      refine .inl (Oper.wp_mono ?_ hst)
      rintro a' w' ⟨v, rfl, hTi, hG', hv⟩
      refine ih _ _ _ (by have := unl_set h1 hil h2; omega) ⟨hG', by rw [defers_put]; exact I.defers, by rw [size_put]; exact I.size, by simp [I.len], ?_, ?_, ?_⟩
      · intro k hkm hkl hkn
        by_cases e : k = i
        · subst e; exact hv
        · have hkl' : ops.size ≤ k ∨ listed.getD k false = true := hkl.imp (fun h => h) fun h => by rwa [getD_set _ _ _ hil, if_neg e] at h
          have hip : i ∉ ancOf ops 3 k := fun hip => by
            rcases hkl' with h | h
            · have e0 : predsOf ops k = [] := by unfold predsOf; rw [Array.getElem?_eq_none h]; rfl
              simp [ancOf, e0] at hip
            · have := anc_listed I.closed 3 k (I.closed k h) i hip
              rw [h2] at this; cases this
          have hkn' : (k ∈ last ∨ ∃ j, j < ops.size ∧ listed.getD j false = false ∧ k ∈ needs j) ∧ keptA ops needs last i k = true := by
            rcases hkn with h | ⟨j, hj, hjl, hjk⟩
            · exact ⟨.inl h, by simp [keptA, h]⟩
            · rw [getD_set _ _ _ hil] at hjl
              split at hjl
              · cases hjl
              · rename_i hji
                refine ⟨.inr ⟨j, hj, hjl, hjk⟩, ?_⟩
                unfold keptA
                rw [Bool.or_eq_true]
                right
                rw [List.any_eq_true]
                have hja : j ∉ ancOf ops 3 i := fun h => by
                  have := anc_listed I.closed 3 i h3 j h
                  rw [hjl] at this; cases this
                exact ⟨j, List.mem_range.2 hj, by simp [hji, hjk, hja]⟩
          refine hdep k a _ w' hkm (fun t ht => slot_put_other _ _ _ _ fun hd => (hL' i h1).2 k hkm e hip hkn'.2 t (by unfold dstOf; rw [Array.getElem?_eq_getElem h1]; exact hd) ht) ?_
          exact hT i k a w w' h1 hkm e hkn'.2 (I.val k hkm hkl' hkn'.1) hTi
      · intro t ht
        rw [slot_put_other _ _ _ _ (fun hd => by
          have := ht i (by unfold dstOf; rw [Array.getElem?_eq_getElem h1]; exact hd)
          rw [getD_set _ _ _ hil, if_pos rfl] at this; cases this)]
        exact I.old t fun k hk => by
          have := ht k hk
          rw [getD_set _ _ _ hil] at this
          split at this
          · cases this
          · exact this
      · intro k hkl j hj
        rw [getD_set _ _ _ hil]
        split
        · rfl
        · rename_i hji
          rw [getD_set _ _ _ hil] at hkl
          split at hkl
          · rename_i hki; subst hki; exact h3 j hj
          · exact I.closed k hkl j hj
  refine wp_region_any hm (key _ _ _ _ ?_ ⟨hG, rfl, rfl, by simp, ?_, fun t _ => rfl, ?_⟩)
  · unfold unl
    exact Nat.le_trans (List.countP_le_length) (by simp)
  · intro k hkm h _
    rcases h with h | h
    · exact hV0 k hkm h
    · simp [Array.getElem?_replicate] at h
      split at h <;> simp at h
  · intro k h
    simp [Array.getElem?_replicate] at h
    split at h <;> simp at h
theorem wp_region_rely {id : Nat} {a0 : Act} {w0 : World} (hm : P.follows .mixedOrders = true) (hB : relyB ops a0.tmps.size = true) (T : Nat → World → World → Prop) (G : World → Prop) (V : Nat → Act → World → Prop)
    (m : Nat) (needs : Nat → List Nat) (last : List Nat) (dep : Nat → List Tmp) (hL : leanB ops m needs last dep = true) (hneeds : ∀ i k, k ∈ needs i → k < m)
    (hdep : ∀ k a a' w, k < m → (∀ t ∈ dep k, slot a' t = slot a t) → V k a w → V k a' w)
    (hT : ∀ i k a w w', i < ops.size → k < m → k ≠ i → keptB ops.size needs last i k = true → V k a w → T i w w' → V k a w')
    (hG : G { w0 with drawn := w0.drawn + 1 }) (hV0 : ∀ k, k < m → ops.size ≤ k → V k a0 { w0 with drawn := w0.drawn + 1 })
    (step : ∀ i (hi : i < ops.size) a w, G w → (∀ k ∈ needs i, V k a w) → (∀ t, (∀ k, dstOf ops k = some t → i ∈ predsOf ops k) → slot a t = slot a0 t) → a.tmps.size = a0.tmps.size →
      (ops[i]).wp P a w (fun a' w' => ∃ v, a' = a.put (ops[i]).dst v ∧ T i w w' ∧ G w' ∧ V i a' w') Q)
    (done : ∀ a w, G w → (∀ k ∈ last, k < m → V k a w) → (∀ t, (∀ k : Nat, dstOf ops k ≠ some t) → slot a t = slot a0 t) → a.tmps.size = a0.tmps.size → a.defers = a0.defers → Q .normal a w) :
    (Code.region id ops true).wp P Q a0 w0 :=
  wp_region_relyA hm hB T G V m needs last dep (lean_A hL) hneeds hdep (fun i k a w w' h1 h2 h3 h4 => hT i k a w w' h1 h2 h3 (kept_of_A h4)) hG hV0 step done
end
end Go.Proofs.YtlccihidedfemaaGreatDoor
set_option linter.unusedVariables false
namespace Go.Proofs.YtlccihidedfemaaGreatDoor
open Go.RowKit
theorem wp_callf {P : Program} {o : Oper} {a : Act} {w : World} {K : Act → World → Prop} {Q : Exit → Act → World → Prop} (f : FuncId) (args : Array Operand) (tys : Array TypeId) (ho : o.op = .call { callee := .value (.func f), args := args, argTypes := tys })
    (hen : ∀ xs w, (callFunc f xs).run P w = .ok (.enter f xs) w) (xs : Array Value) (hxs : args.map a.eval = xs) (v : Value) {R : World → Prop} (h : Calls P f xs w fun e w' => e = .returned v ∧ R w') (hk : ∀ w', R w' → K (a.put o.dst v) w') : o.wp P a w K Q := by
  unfold Oper.wp execOp
  simp only [ho]
  simp [hxs, go_sem, hen]
  refine h.mono ?_
  rintro e w' ⟨rfl, hr⟩
  exact hk w' hr
theorem wp_alloc_zero {P : Program} {o : Oper} {a : Act} {w : World} {K : Act → World → Prop} {Q : Exit → Act → World → Prop} (t : TypeId) (ho : o.op = .alloc t)
    (cells : Array Value) (hz : (P.info? t).bind (fun i => i.zero.map (·.cells)) = some cells)
    (h : K (a.put o.dst (.pointer (some ⟨w.heap.size, 0, none⟩))) (w.alloc (.cells cells t))) : o.wp P a w K Q := by
  cases hi : P.info? t with
  | none => simp [hi] at hz
  | some i =>
    cases hz0 : i.zero with
    | none => simp [hi, hz0] at hz
    | some z =>
      simp only [hi, hz0, Option.bind_some, Option.map_some, Option.some.injEq] at hz
      subst hz
      unfold Oper.wp execOp
      simp [ho, Instr.alloc, zeroValue, typeInfo, hi, hz0, newVar, newRow, go_sem]
      exact h
theorem alloc3 (w : World) (A B C : Array Value) (ta tb tc : TypeId) :
    Row (((w.alloc (.cells A ta)).alloc (.cells B tb)).alloc (.cells C tc)) w.heap.size A ta ∧ Row (((w.alloc (.cells A ta)).alloc (.cells B tb)).alloc (.cells C tc)) (w.heap.size + 1) B tb ∧
      Row (((w.alloc (.cells A ta)).alloc (.cells B tb)).alloc (.cells C tc)) (w.heap.size + 1 + 1) C tc ∧ Below w.heap.size w (((w.alloc (.cells A ta)).alloc (.cells B tb)).alloc (.cells C tc)) ∧
      (((w.alloc (.cells A ta)).alloc (.cells B tb)).alloc (.cells C tc)).heap.size = w.heap.size + 3 := by
  refine ⟨((Row.made _ _ _).alloc _).alloc _, ?_, ?_, (((Below.refl _ _).alloc (Nat.le_refl _) _).alloc (by simp) _).alloc (by simp; omega) _, by simp⟩
  · have := (Row.made (w.alloc (.cells A ta)) B tb).alloc (.cells C tc)
    simpa using this
  · have := Row.made ((w.alloc (.cells A ta)).alloc (.cells B tb)) C tc
    simpa using this
theorem slotE {a : Act} {t : Tmp} {v : Value} (h : slot a t = v) : a.eval (.tmp t) = v := h
def wordV (ops : Array Oper) (U : Nat → Value → World → Prop) (k : Nat) (a : Act) (w : World) : Prop := U k (((dstOf ops k).map (slot a)).getD undef) w
def needL (l : List (List Nat)) (i : Nat) : List Nat := l.getD i []
def depL (ops : Array Oper) (k : Nat) : List Tmp := (dstOf ops k).toList
def boundL (l : List (List Nat)) (m : Nat) : Bool := l.all fun x => x.all (· < m)
theorem needL_bound {l : List (List Nat)} {m : Nat} (h : boundL l m = true) (i k : Nat) (hk : k ∈ needL l i) : k < m := by
  unfold needL at hk
  rw [List.getD_eq_getElem?_getD] at hk
  cases hi : l[i]? with
  | none => rw [hi] at hk; cases hk
  | some x =>
    rw [hi] at hk
    have h1 := (List.all_eq_true.1 h) x (List.mem_of_getElem? hi)
    simpa using (List.all_eq_true.1 h1) k hk
def StepW (P : Program) (ops : Array Oper) (Q : Exit → Act → World → Prop) (a0 : Act) (T : Nat → World → World → Prop) (G : World → Prop) (U : Nat → Value → World → Prop) (nl : List (List Nat)) (i : Nat) (o : Oper) : Prop :=
  ∀ a w, G w → (∀ k ∈ needL nl i, wordV ops U k a w) → (∀ t, oldB ops i t = true → slot a t = slot a0 t) → o.wp P a w (fun a' w' => ∃ v, a' = a.put o.dst v ∧ T i w w' ∧ G w' ∧ U i (if o.dst.isSome then v else undef) w') Q
theorem wp_region_words {P : Program} {ops : Array Oper} {Q : Exit → Act → World → Prop} {id : Nat} {a0 : Act} {w0 : World} (hm : P.follows .mixedOrders = true) (hB : relyB ops a0.tmps.size = true)
    (T : Nat → World → World → Prop) (G : World → Prop) (U : Nat → Value → World → Prop) (m : Nat) (nl : List (List Nat)) (last : List Nat) (hb : boundL nl m = true) (hL : leanA ops m (needL nl) last (depL ops) = true)
    (bad : List (Nat × Nat)) (hbad : (bad.all fun x => !keptA ops (needL nl) last x.1 x.2) = true) (hT : ∀ i k v w w', i < ops.size → k < m → k ≠ i → (i, k) ∉ bad → U k v w → T i w w' → U k v w')
    (hG : G { w0 with drawn := w0.drawn + 1 }) (hV0 : ∀ k, k < m → ops.size ≤ k → U k undef { w0 with drawn := w0.drawn + 1 })
    (ds : List Tmp) (hds : dstsOf ops = ds) (step : ∀ i (hi : i < ops.size), StepW P ops Q a0 T G U nl i ops[i])
    (done : ∀ a w, G w → (∀ k ∈ last, k < m → wordV ops U k a w) → a.tmps.size = a0.tmps.size → a = ⟨(patchL ds (slot a) 0 a0.tmps.toList).toArray, a0.defers⟩ → Q .normal a w) :
    (Code.region id ops true).wp P Q a0 w0 := by
  subst hds
  refine wp_region_relyA hm hB T G (wordV ops U) m (needL nl) last (depL ops) hL (needL_bound hb) ?_ (fun i k a w w' hi hk hne hke h hTi => hT i k _ w w' hi hk hne (fun hx => by have := (List.all_eq_true.1 hbad) _ hx; simp [hke] at this) h hTi) hG ?_ ?_ ?_
  · intro k a a' w hk h hv
    unfold wordV at hv ⊢
    unfold depL at h
    cases hd : dstOf ops k with
    | none => rw [hd] at hv; exact hv
    | some t =>
      rw [hd] at hv h
      simp only [Option.toList_some, List.mem_singleton, forall_eq] at h
      simp only [Option.map_some, Option.getD_some] at hv ⊢
      rw [h]; exact hv
  · intro k hk hge
    unfold wordV
    have : dstOf ops k = none := by unfold dstOf; rw [Array.getElem?_eq_none hge]; rfl
    rw [this]; exact hV0 k hk hge
  · intro i hi a w hGw hN hO hS
    refine Oper.wp_mono ?_ (step i hi a w hGw hN (fun t ht => hO t (old_of ht)))
    rintro a' w' ⟨v, rfl, h1, h2, h3⟩
    refine ⟨v, rfl, h1, h2, ?_⟩
    unfold wordV
    have hd : dstOf ops i = ops[i].dst := by unfold dstOf; rw [Array.getElem?_eq_getElem hi]; rfl
    rw [hd]
    cases ht : ops[i].dst with
    | none => rw [ht] at h3; exact h3
    | some t =>
      rw [ht] at h3
      have hlt : t < a0.tmps.size := by
        have := (List.all_eq_true.1 hB) i (List.mem_range.2 hi)
        simp only [Bool.and_eq_true] at this
        have h4 := this.2
        have hd' : (ops[i]?).bind (·.dst) = some t := by rw [Array.getElem?_eq_getElem hi]; exact ht
        rw [hd'] at h4
        simp only [Option.map_some, Option.getD_some, Bool.and_eq_true, decide_eq_true_eq] at h4
        exact h4.1
      simp only [Option.map_some, Option.getD_some]
      rw [slot_put_same _ _ _ (by rw [hS]; exact hlt)]
      exact h3
  · intro a w hGw hV hO hS hD
    exact done a w hGw hV hS (act_patch _ hS hD (fun t ht => hO t (free_of ht)))
theorem stepW_value {P : Program} {ops : Array Oper} {Q : Exit → Act → World → Prop} {a0 : Act} {T : Nat → World → World → Prop} {G : World → Prop} {U : Nat → Value → World → Prop} {nl : List (List Nat)} {i : Nat} {o : Oper} {t : Tmp} (v : Value)
    (hd : o.dst = some t) (hTr : ∀ w, T i w w)
    (hrun : ∀ a w, G w → (∀ k ∈ needL nl i, wordV ops U k a w) → (∀ t, oldB ops i t = true → slot a t = slot a0 t) → (execOp a.eval o).run P w = .ok (.value v) w)
    (hU : ∀ w, G w → U i v w) : StepW P ops Q a0 T G U nl i o := by
  intro a w hG hN hO
  exact wp_value (hrun a w hG hN hO) ⟨v, rfl, hTr w, hG, by rw [hd]; exact hU w hG⟩
theorem run_move_slot {P : Program} {a : Act} {w : World} {o : Oper} {s : Tmp} {v : Value} (ho : o.op = .move (.tmp s) ∨ o.op = .assign (.tmp s)) (h : slot a s = v) : (execOp a.eval o).run P w = .ok (.value v) w := by
  have e : a.eval (.tmp s) = v := h
  rcases ho with ho | ho <;> simp [execOp, ho, e]
theorem slot_at {a : Act} {t : Tmp} {v : Value} (h : slot a t = v) : a.tmps[t]?.getD undef = v := by rw [← h]; simp [slot]
end Go.Proofs.YtlccihidedfemaaGreatDoor
set_option linter.unusedVariables false
namespace Go.Proofs.YtlccihidedfemaaGreatDoor
open Go Go.RowKit
section
variable {P : Program} {ops : Array Oper} {Q : Exit → Act → World → Prop}
def relyGB (ops : Array Oper) (n : Nat) : Bool :=
  (List.range ops.size).all fun i => (predsOf ops i).all (· < i) &&
    (((ops[i]?).bind (·.dst)).map fun t => decide (t < n) && (List.range ops.size).all fun k => k == i || !(((ops[k]?).bind (·.dst)) == some t)).getD true
theorem wp_any_relyG {a0 : Act} {w0 : World} (hB : relyGB ops a0.tmps.size = true) (T : Nat → World → World → Prop) (G : World → Prop) (V : Nat → Act → World → Prop)
    (m : Nat) (needs : Nat → List Nat) (last : List Nat) (dep : Nat → List Tmp) (hL : leanA ops m needs last dep = true) (hneeds : ∀ i k, k ∈ needs i → k < m)
    (hdep : ∀ k a a' w, k < m → (∀ t ∈ dep k, slot a' t = slot a t) → V k a w → V k a' w)
    (hT : ∀ i k a w w', i < ops.size → k < m → k ≠ i → keptA ops needs last i k = true → i ∉ ancOf ops 3 k → V k a w → T i w w' → V k a w')
    (hG : G { w0 with drawn := w0.drawn + 1 }) (hV0 : ∀ k, k < m → ops.size ≤ k → V k a0 { w0 with drawn := w0.drawn + 1 })
    (step : ∀ i (hi : i < ops.size) a w, G w → (∀ k ∈ needs i, V k a w) → (∀ t, (∀ k, dstOf ops k = some t → i ∈ predsOf ops k) → slot a t = slot a0 t) → a.tmps.size = a0.tmps.size →
      (Region.wanted (ops[i]) (yielded ops a.tmps) = true ∧ (ops[i]).wp P a w (fun a' w' => ∃ v, a' = a.put (ops[i]).dst v ∧ T i w w' ∧ G w' ∧ V i a' w') Q) ∨
        (Region.wanted (ops[i]) (yielded ops a.tmps) = false ∧ T i w w ∧ V i (a.put (ops[i]).dst undef) w))
    (done : ∀ a w, G w → (∀ k ∈ last, k < m → V k a w) → (∀ t, (∀ k : Nat, dstOf ops k ≠ some t) → slot a t = slot a0 t) → a.tmps.size = a0.tmps.size → a.defers = a0.defers → Q .normal a w) :
    wpAny P .any ops Q ops.size (Array.replicate ops.size false) a0 { w0 with drawn := w0.drawn + 1 } := by
  have hB' : ∀ i, i < ops.size → (∀ j ∈ predsOf ops i, j < i) ∧
      (((ops[i]?).bind (·.dst)).map fun t => decide (t < a0.tmps.size) && (List.range ops.size).all fun k => k == i || !(((ops[k]?).bind (·.dst)) == some t)).getD true = true := by
    intro i hi
    have := (List.all_eq_true.1 hB) i (List.mem_range.2 hi)
    simp only [Bool.and_eq_true] at this
    obtain ⟨h1, h3⟩ := this
    exact ⟨fun j hj => by simpa using (List.all_eq_true.1 h1) j hj, h3⟩
  have hL' : ∀ i, i < ops.size → (∀ k ∈ needs i, ops.size ≤ k ∨ k ∈ ancOf ops 3 i) ∧ ∀ k, k < m → k ≠ i → i ∉ ancOf ops 3 k → keptA ops needs last i k = true → ∀ t, dstOf ops i = some t → t ∉ dep k := by
    intro i hi
    have := (List.all_eq_true.1 hL) i (List.mem_range.2 hi)
    rw [Bool.and_eq_true] at this
    obtain ⟨h1, h2⟩ := this
    refine ⟨fun k hk => by simpa using (List.all_eq_true.1 h1) k hk, fun k hk hki hip hke t ht => ?_⟩
    have h3 := (List.all_eq_true.1 h2) k (List.mem_range.2 hk)
    have hip' : (ancOf ops 3 k).contains i = false := by simpa using hip
    have hki' : (k == i) = false := by simpa using hki
    rw [hke, hip', hki', ht] at h3
    simpa using h3
  have key : ∀ fuel listed a w, unl ops.size listed ≤ fuel → RelyInv ops m a0 G V needs last listed a w → wpAny P .any ops Q fuel listed a w := by
    intro fuel
    have fin : ∀ listed a w, RelyInv ops m a0 G V needs last listed a w → (∀ i, i < ops.size → listed.getD i false = true) → Q .normal a w := fun listed a w I hall =>
      done a w I.g (fun k hk hkm => I.val k hkm (by
        rcases Nat.lt_or_ge k ops.size with h | h
        · exact .inr (hall k h)
        · exact .inl h) (.inl hk)) (fun t ht => I.old t fun k hk => absurd hk (ht k)) I.size I.defers
    induction fuel with
    | zero =>
      intro listed a w hu I
      have hall := fun i hi => unl_zero (Nat.le_zero.1 hu) i hi
      refine ⟨?_, fin listed a w I hall⟩
      apply List.eq_nil_iff_forall_not_mem.2
      intro i hi
      obtain ⟨h1, h2, _⟩ := ready_spec hi I.len
      rw [hall i h1] at h2; cases h2
    | succ fuel ih =>
      intro listed a w hu I
      refine ⟨fun hr => fin listed a w I (all_listed I.len (fun i hi => (hB' i hi).1) hr), fun i hi => ?_⟩
      obtain ⟨h1, h2, h3⟩ := ready_spec hi I.len
      have hil : i < listed.size := by rw [I.len]; exact h1
      have hst := step i h1 a w I.g (fun k hk => I.val k (hneeds i k hk) (((hL' i h1).1 k hk).imp (fun h => h) (anc_listed I.closed 3 i h3 k)) (.inr ⟨i, h1, h2, hk⟩)) (fun t ht => I.old t fun k hk => by
        by_cases hc : listed.getD k false = true
        · have := I.closed k hc i (ht k hk)
          rw [h2] at this; cases this
        · simpa using hc) I.size
      have next : ∀ v w', T i w w' → G w' → V i (a.put (ops[i]).dst v) w' → wpAny P .any ops Q fuel (listed.setIfInBounds i true) (a.put (ops[i]).dst v) w' := by
        intro v w' hTi hG' hv
        refine ih _ _ _ (by have := unl_set h1 hil h2; omega) ⟨hG', by rw [defers_put]; exact I.defers, by rw [size_put]; exact I.size, by simp [I.len], ?_, ?_, ?_⟩
        · intro k hkm hkl hkn
          by_cases e : k = i
          · subst e; exact hv
          · have hkl' : ops.size ≤ k ∨ listed.getD k false = true := hkl.imp (fun h => h) fun h => by rwa [getD_set _ _ _ hil, if_neg e] at h
            have hip : i ∉ ancOf ops 3 k := fun hip => by
              rcases hkl' with h | h
              · have e0 : predsOf ops k = [] := by unfold predsOf; rw [Array.getElem?_eq_none h]; rfl
                simp [ancOf, e0] at hip
              · have := anc_listed I.closed 3 k (I.closed k h) i hip
                rw [h2] at this; cases this
            have hkn' : (k ∈ last ∨ ∃ j, j < ops.size ∧ listed.getD j false = false ∧ k ∈ needs j) ∧ keptA ops needs last i k = true := by
              rcases hkn with h | ⟨j, hj, hjl, hjk⟩
              · exact ⟨.inl h, by simp [keptA, h]⟩
              · rw [getD_set _ _ _ hil] at hjl
                split at hjl
                · cases hjl
                · rename_i hji
                  refine ⟨.inr ⟨j, hj, hjl, hjk⟩, ?_⟩
                  unfold keptA
                  rw [Bool.or_eq_true]
                  right
                  rw [List.any_eq_true]
                  have hja : j ∉ ancOf ops 3 i := fun h => by
                    have := anc_listed I.closed 3 i h3 j h
                    rw [hjl] at this; cases this
                  exact ⟨j, List.mem_range.2 hj, by simp [hji, hjk, hja]⟩
            refine hdep k a _ w' hkm (fun t ht => slot_put_other _ _ _ _ fun hd => (hL' i h1).2 k hkm e hip hkn'.2 t (by unfold dstOf; rw [Array.getElem?_eq_getElem h1]; exact hd) ht) ?_
            exact hT i k a w w' h1 hkm e hkn'.2 hip (I.val k hkm hkl' hkn'.1) hTi
        · intro t ht
          rw [slot_put_other _ _ _ _ (fun hd => by
            have := ht i (by unfold dstOf; rw [Array.getElem?_eq_getElem h1]; exact hd)
            rw [getD_set _ _ _ hil, if_pos rfl] at this; cases this)]
          exact I.old t fun k hk => by
            have := ht k hk
            rw [getD_set _ _ _ hil] at this
            split at this
            · cases this
            · exact this
        · intro k hkl j hj
          rw [getD_set _ _ _ hil]
          split
          · rfl
          · rename_i hji
            rw [getD_set _ _ _ hil] at hkl
            split at hkl
            · rename_i hki; subst hki; exact h3 j hj
            · exact I.closed k hkl j hj
      unfold wpOp
      rw [Array.getElem?_eq_getElem h1]
      rcases hst with ⟨hw, hst⟩ | ⟨hw, hTi, hv⟩
      · simp only [hw, if_true]
        refine .inl (Oper.wp_mono ?_ hst)
        rintro a' w' ⟨v, rfl, hTi, hG', hv⟩
        exact next v w' hTi hG' hv
      · simp only [hw, Bool.false_eq_true, if_false]
        exact next undef w hTi I.g hv
  refine key _ _ _ _ ?_ ⟨hG, rfl, rfl, by simp, ?_, fun t _ => rfl, ?_⟩
  · unfold unl
    exact Nat.le_trans (List.countP_le_length) (by simp)
  · intro k hkm h _
    rcases h with h | h
    · exact hV0 k hkm h
    · simp [Array.getElem?_replicate] at h
      split at h <;> simp at h
  · intro k h
    simp [Array.getElem?_replicate] at h
    split at h <;> simp at h
def exV (ex : Nat → Option Tmp) (k : Nat) (a : Act) : Value := ((ex k).map (slot a)).getD undef
def wordE (ops : Array Oper) (ex : Nat → Option Tmp) (U : Nat → Value → Value → World → Prop) (k : Nat) (a : Act) (w : World) : Prop := U k (((dstOf ops k).map (slot a)).getD undef) (exV ex k a) w
def depE (ops : Array Oper) (ex : Nat → Option Tmp) (k : Nat) : List Tmp := (dstOf ops k).toList ++ (ex k).toList
def StepG (P : Program) (ops : Array Oper) (Q : Exit → Act → World → Prop) (a0 : Act) (T : Nat → World → World → Prop) (G : World → Prop) (ex : Nat → Option Tmp) (U : Nat → Value → Value → World → Prop) (nl : List (List Nat)) (i : Nat) (o : Oper) : Prop :=
  ∀ a w, G w → (∀ k ∈ needL nl i, wordE ops ex U k a w) → (∀ t, oldB ops i t = true → slot a t = slot a0 t) →
    (Region.wanted o (yielded ops a.tmps) = true ∧ o.wp P a w (fun a' w' => ∃ v, a' = a.put o.dst v ∧ T i w w' ∧ G w' ∧ U i (if o.dst.isSome then v else undef) (exV ex i a) w') Q) ∨ (Region.wanted o (yielded ops a.tmps) = false ∧ T i w w ∧ U i undef (exV ex i a) w)
theorem wp_any_wordsG {a0 : Act} {w0 : World} (hB : relyGB ops a0.tmps.size = true)
    (T : Nat → World → World → Prop) (G : World → Prop) (ex : Nat → Option Tmp) (U : Nat → Value → Value → World → Prop) (m : Nat) (nl : List (List Nat)) (last : List Nat) (hb : boundL nl m = true) (hL : leanA ops m (needL nl) last (depE ops ex) = true)
    (hex : ((List.range m).all fun k => (dstOf ops k).isNone || (ex k).isNone || !(dstOf ops k == ex k)) = true)
    (bad : List (Nat × Nat)) (hbad : (bad.all fun x => !keptA ops (needL nl) last x.1 x.2 || (ancOf ops 3 x.2).contains x.1) = true) (hT : ∀ i k v e w w', i < ops.size → k < m → k ≠ i → (i, k) ∉ bad → U k v e w → T i w w' → U k v e w') (hm2 : ops.size ≤ m)
    (hG : G { w0 with drawn := w0.drawn + 1 }) (hV0 : ∀ k, k < m → ops.size ≤ k → U k undef (exV ex k a0) { w0 with drawn := w0.drawn + 1 })
    (ds : List Tmp) (hds : dstsOf ops = ds) (step : ∀ i (hi : i < ops.size), StepG P ops Q a0 T G ex U nl i ops[i])
    (done : ∀ a w, G w → (∀ k ∈ last, k < m → wordE ops ex U k a w) → a.tmps.size = a0.tmps.size → a = ⟨(patchL ds (slot a) 0 a0.tmps.toList).toArray, a0.defers⟩ → Q .normal a w) :
    wpAny P .any ops Q ops.size (Array.replicate ops.size false) a0 { w0 with drawn := w0.drawn + 1 } := by
  subst hds
  refine wp_any_relyG hB T G (wordE ops ex U) m (needL nl) last (depE ops ex) hL (needL_bound hb) ?_ (fun i k a w w' hi hk hne hke hip h hTi => hT i k _ _ w w' hi hk hne (fun hx => by have := (List.all_eq_true.1 hbad) _ hx; simp [hke] at this; exact hip this) h hTi) hG ?_ ?_ ?_
  · intro k a a' w hk h hv
    have h1 : ((dstOf ops k).map (slot a')).getD undef = ((dstOf ops k).map (slot a)).getD undef := by
      cases hd : dstOf ops k with
      | none => rfl
      | some t => simp only [Option.map_some, Option.getD_some]; exact h t (by simp [depE, hd])
    have h2 : exV ex k a' = exV ex k a := by
      unfold exV
      cases hd : ex k with
      | none => rfl
      | some t => simp only [Option.map_some, Option.getD_some]; exact h t (by simp [depE, hd])
    unfold wordE at hv ⊢
    rw [h1, h2]; exact hv
  · intro k hk hge
    unfold wordE
    have : dstOf ops k = none := by unfold dstOf; rw [Array.getElem?_eq_none hge]; rfl
    rw [this]; exact hV0 k hk hge
  · intro i hi a w hGw hN hO hS
    have fin : ∀ v w', U i (if (ops[i]).dst.isSome then v else undef) (exV ex i a) w' → wordE ops ex U i (a.put (ops[i]).dst v) w' := by
      intro v w' h3
      have hd : dstOf ops i = ops[i].dst := by unfold dstOf; rw [Array.getElem?_eq_getElem hi]; rfl
      have h4 : exV ex i (a.put (ops[i]).dst v) = exV ex i a := by
        unfold exV
        cases he : ex i with
        | none => rfl
        | some t =>
          simp only [Option.map_some, Option.getD_some]
          refine slot_put_other _ _ _ _ fun hdt => ?_
          have := (List.all_eq_true.1 hex) i (List.mem_range.2 (by omega))
          rw [hd, hdt, he] at this
          simp at this
      unfold wordE
      rw [hd, h4]
      cases ht : ops[i].dst with
      | none => rw [ht] at h3; exact h3
      | some t =>
        rw [ht] at h3
        have hlt : t < a0.tmps.size := by
          have := (List.all_eq_true.1 hB) i (List.mem_range.2 hi)
          simp only [Bool.and_eq_true] at this
          have h5 := this.2
          have hd' : (ops[i]?).bind (·.dst) = some t := by rw [Array.getElem?_eq_getElem hi]; exact ht
          rw [hd'] at h5
          simp only [Option.map_some, Option.getD_some, Bool.and_eq_true, decide_eq_true_eq] at h5
          exact h5.1
        simp only [Option.map_some, Option.getD_some]
        rw [slot_put_same _ _ _ (by rw [hS]; exact hlt)]
        exact h3
    rcases step i hi a w hGw hN (fun t ht => hO t (old_of ht)) with ⟨hw, hst⟩ | ⟨hw, h1, h3⟩
    · refine .inl ⟨hw, Oper.wp_mono ?_ hst⟩
      rintro a' w' ⟨v, rfl, h1, h2, h3⟩
      exact ⟨v, rfl, h1, h2, fin v w' h3⟩
    · exact .inr ⟨hw, h1, fin undef w (by split <;> exact h3)⟩
  · intro a w hGw hV hO hS hD
    exact done a w hGw hV hS (act_patch _ hS hD (fun t ht => hO t (free_of ht)))
end
section
variable {P : Program} {ops : Array Oper} {Q : Exit → Act → World → Prop} {a0 : Act} {T : Nat → World → World → Prop} {G : World → Prop} {ex : Nat → Option Tmp} {U : Nat → Value → Value → World → Prop} {nl : List (List Nat)} {i : Nat} {o : Oper}
def StepR (P : Program) (ops : Array Oper) (Q : Exit → Act → World → Prop) (a0 : Act) (T : Nat → World → World → Prop) (G : World → Prop) (ex : Nat → Option Tmp) (U : Nat → Value → Value → World → Prop) (nl : List (List Nat)) (i : Nat) (o : Oper) : Prop :=
  ∀ a w, G w → (∀ k ∈ needL nl i, wordE ops ex U k a w) → (∀ t, oldB ops i t = true → slot a t = slot a0 t) →
    o.wp P a w (fun a' w' => ∃ v, a' = a.put o.dst v ∧ T i w w' ∧ G w' ∧ U i (if o.dst.isSome then v else undef) (exV ex i a) w') Q
theorem stepG_of (hg : o.guard = none) (h : StepR P ops Q a0 T G ex U nl i o) : StepG P ops Q a0 T G ex U nl i o := fun a w hG hN hO => .inl ⟨by unfold Region.wanted; rw [hg], h a w hG hN hO⟩
theorem stepR_value {t : Tmp} (v : Value) (hd : o.dst = some t) (hTr : ∀ w, T i w w)
    (hrun : ∀ a w, G w → (∀ k ∈ needL nl i, wordE ops ex U k a w) → (∀ t, oldB ops i t = true → slot a t = slot a0 t) → (execOp a.eval o).run P w = .ok (.value v) w)
    (hU : ∀ a w, G w → (∀ k ∈ needL nl i, wordE ops ex U k a w) → U i v (exV ex i a) w) : StepR P ops Q a0 T G ex U nl i o := by
  intro a w hG hN hO
  exact wp_value (hrun a w hG hN hO) ⟨v, rfl, hTr w, hG, by rw [hd]; exact hU a w hG hN⟩
end
variable {P : Program} {ops : Array Oper} {Q : Exit → Act → World → Prop}
theorem wp_region_wordsG {id : Nat} {a0 : Act} {w0 : World} (hm : P.follows .mixedOrders = true) (hB : relyGB ops a0.tmps.size = true)
    (T : Nat → World → World → Prop) (G : World → Prop) (ex : Nat → Option Tmp) (U : Nat → Value → Value → World → Prop) (m : Nat) (nl : List (List Nat)) (last : List Nat) (hb : boundL nl m = true) (hL : leanA ops m (needL nl) last (depE ops ex) = true)
    (hex : ((List.range m).all fun k => (dstOf ops k).isNone || (ex k).isNone || !(dstOf ops k == ex k)) = true)
    (bad : List (Nat × Nat)) (hbad : (bad.all fun x => !keptA ops (needL nl) last x.1 x.2 || (ancOf ops 3 x.2).contains x.1) = true) (hT : ∀ i k v e w w', i < ops.size → k < m → k ≠ i → (i, k) ∉ bad → U k v e w → T i w w' → U k v e w') (hm2 : ops.size ≤ m)
    (hG : G { w0 with drawn := w0.drawn + 1 }) (hV0 : ∀ k, k < m → ops.size ≤ k → U k undef (exV ex k a0) { w0 with drawn := w0.drawn + 1 })
    (ds : List Tmp) (hds : dstsOf ops = ds) (step : ∀ i (hi : i < ops.size), StepG P ops Q a0 T G ex U nl i ops[i])
    (done : ∀ a w, G w → (∀ k ∈ last, k < m → wordE ops ex U k a w) → a.tmps.size = a0.tmps.size → a = ⟨(patchL ds (slot a) 0 a0.tmps.toList).toArray, a0.defers⟩ → Q .normal a w) :
    (Code.region id ops true).wp P Q a0 w0 :=
  wp_region_any hm (wp_any_wordsG hB T G ex U m nl last hb hL hex bad hbad hT hm2 hG hV0 ds hds step done)
variable {P : Program} {ops : Array Oper} {Q : Exit → Act → World → Prop}
theorem rowsIn_wide {l n : Nat} {row : String} {args : Array Value} {w : World} {R : Value → World → Prop} (h : Rows P row args w R) : RowsIn (Fence.wide.inRound l) n P row args w R :=
  fun c cs _ => let ⟨v, w', r, s⟩ := h c cs; ⟨v, w', r, stepsIn_wide.2 s⟩
theorem uponIn_round {l n : Nat} {o : Oper} {a : Act} {next : Act → World → Prop} {r : Result Next} (h : o.upon P a next Q r) : o.uponIn (Fence.wide.inRound l) n P a next Q r := by
  cases r with
  | ok x w' =>
    cases x <;> simp only [Oper.upon, Oper.uponIn] at h ⊢ <;>
      first
        | exact h
        | exact ⟨fun h => (by cases h), CallsIn.inRound l (callsIn_wide.2 h)⟩
        | exact ⟨fun h => (by cases h), rowsIn_wide h⟩
  | halt x w' => cases x <;> simp only [Oper.upon, Oper.uponIn] at h ⊢ <;> exact h
theorem wpIn_round {l n : Nat} {o : Oper} {a : Act} {w : World} {next : Act → World → Prop} (hd : ∀ c, o.op ≠ .defer c) (h : o.wp P a w next Q) : o.wpIn (Fence.wide.inRound l) n P a w next Q := by
  refine ⟨fun _ _ => trivial, ?_⟩
  rw [Fence.inRound_round, Oper.semAt_some _ _ _ hd]
  exact uponIn_round h
def noDefer (ops : Array Oper) : Bool := ops.all fun o => match o.op with
  | .defer _ => false
  | _ => true
theorem noDefer_at (h : noDefer ops = true) {i : Nat} {o : Oper} (hi : ops[i]? = some o) : ∀ c, o.op ≠ .defer c := fun c e => by
  obtain ⟨hlt, rfl⟩ := Array.getElem?_eq_some_iff.1 hi
  have := Array.all_eq_true.1 h i hlt
  rw [e] at this; cases this
theorem wpOpIn_round {l n i : Nat} {K : Act → World → Prop} {a : Act} {w : World} (hd : noDefer ops = true) (hQ : ¬ LetsOut Q) (h : wpOp P ops Q i K a w) : wpOpIn (Fence.wide.inRound l) n P ops Q i K a w := by
  unfold wpOp at h; unfold wpOpIn
  cases ho : ops[i]? with
  | none => rw [ho] at h; exact h
  | some o =>
    rw [ho] at h
    simp only at h ⊢
    by_cases hw : Region.wanted o (yielded ops a.tmps) = true
    · simp only [hw, if_true] at h ⊢
      rcases h with h | h
      · exact wpIn_round (noDefer_at hd ho) h
      · exact absurd h.2 hQ
    · simp only [hw] at h ⊢
      exact ⟨fun _ _ => trivial, h⟩
theorem wpAnyIn_round {l n : Nat} {md : Region.Mode} (hd : noDefer ops = true) (hQ : ¬ LetsOut Q) : ∀ (fuel : Nat) (listed : Array Bool) (a : Act) (w : World), wpAny P md ops Q fuel listed a w → wpAnyIn (Fence.wide.inRound l) n P md ops Q fuel listed a w
  | 0, _, _, _, h => h
  | fuel + 1, listed, a, w, h => ⟨h.1, fun i hi => wpOpIn_mono (fun a w h => wpAnyIn_round hd hQ fuel _ a w h) (wpOpIn_round hd hQ (h.2 i hi))⟩
theorem wpIn_region_round {l n id : Nat} {a : Act} {w : World} (hm : P.follows .mixedOrders = true) (hd : noDefer ops = true) (hQ : ¬ LetsOut Q)
    (h : wpAny P .any ops Q ops.size (Array.replicate ops.size false) a { w with drawn := w.drawn + 1 }) : (Code.region id ops true).wpIn (Fence.wide.inRound l) n P Q a w :=
  wpIn_region_any hm (wpAnyIn_round hd hQ _ _ _ _ h)
end Go.Proofs.YtlccihidedfemaaGreatDoor
namespace Go.Proofs.YtlccihidedfemaaGreatDoor
theorem zeroIt_d : zeroIt.d = false := rfl
theorem above_dir {L : List It} (F : TFit L) (B : List (List UInt8)) (hB : B ≠ []) : ∀ (m : Nat) (r : List (List UInt8)) (x : It), r.length = m + 1 → x ∈ L → cs x.t = B ++ r → ∃ y ∈ L, cs y.t = B ∧ y.d = true
  | m, r, x, hr, hx, e => by
    have hp := F.path x hx
    have hd := cs_dir hp
    have hrn : r ≠ [] := by intro h; subst h; simp at hr
    rw [e, List.dropLast_append_of_ne_nil hrn] at hd
    have hne : dirS x.t ≠ [] := by
      intro h; rw [h, cs_nil] at hd
      have := congrArg List.length hd
      rw [List.length_append] at this
      exact hB (List.length_eq_zero_iff.1 (by simp at this; omega))
    have hu := F.under x hx
    unfold underT at hu
    rw [decide_eq_false hne, Bool.false_or] at hu
    cases hf : findT L (dirS x.t) with
    | none => rw [foundI_none hf, zeroIt_d] at hu; cases hu
    | some y =>
      rw [foundI_some hf] at hu
      obtain ⟨hy, hyt⟩ := findT_mem hf
      have hcy : cs y.t = B ++ r.dropLast := by rw [hyt]; exact hd
      cases m with
      | zero =>
        have : r.dropLast = [] := List.length_eq_zero_iff.1 (by rw [List.length_dropLast]; omega)
        rw [this, List.append_nil] at hcy
        exact ⟨y, hy, hcy, hu⟩
      | succ m => exact above_dir F B hB m r.dropLast y (by rw [List.length_dropLast]; omega) hy hcy
def seqT (c : List UInt8 → Nat) (L : List It) : List Nd := seqD c L 9 []
def topT (c : List UInt8 → Nat) (L : List It) : Nd := dirN c L 9 []
def objsT (c : List UInt8 → Nat) (L : List It) : List Ob := putsN [] (seqT c L)
theorem topT_mem (c : List UInt8 → Nat) (L : List It) : topT c L ∈ seqT c L := top_mem c L 9 []
theorem seqT_fit {c : List UInt8 → Nat} {L : List It} (R : ReadyT c L) : ∀ n ∈ seqT c L, fitN n = true := seqD_fit R 9 []
end Go.Proofs.YtlccihidedfemaaGreatDoor
set_option linter.unusedVariables false
namespace Go.Proofs.YtlccihidedfemaaGreatDoor
theorem flatMap_same {α β : Type} {f g : α → List β} : ∀ {L : List α}, (∀ x ∈ L, f x = g x) → L.flatMap f = L.flatMap g
  | [], _ => rfl
  | x :: L, h => by rw [List.flatMap_cons, List.flatMap_cons, h x (by simp), flatMap_same fun y hy => h y (List.mem_cons_of_mem _ hy)]
theorem inD_none {L : List It} (F : TFit L) {d : List UInt8} (h : ∀ x ∈ L, (cs x.t).length ≤ (cs d).length) : inD L d = [] :=
  List.filter_eq_nil_iff.2 fun x hx => by
    intro e
    have e := of_decide_eq_true e
    have := (dir_iff (F.path x hx)).1 e
    have hl := h x hx
    rw [this, List.length_append] at hl
    simp at hl
    omega
theorem dirN_more {L : List It} (F : TFit L) (c : List UInt8 → Nat) : ∀ (k : Nat) (d : List UInt8), (∀ x ∈ L, (cs x.t).length ≤ (cs d).length + k) → dirN c L (k + 1) d = dirN c L k d
  | 0, d, h => by
    show (⟨3, ⟨#[]⟩, [], _⟩ : Nd) = ⟨3, ⟨#[]⟩, [], []⟩
    rw [inD_none F h]; rfl
  | k + 1, d, h => by
    show (⟨3, ⟨#[]⟩, [], _⟩ : Nd) = ⟨3, ⟨#[]⟩, [], _⟩
    congr 1
    refine List.map_congr_left fun x hx => ?_
    have hm := mem_inD.1 hx
    have e := (dir_iff (F.path x hm.1)).1 hm.2
    rw [dirN_more F c k x.t (fun y hy => by rw [e, List.length_append]; have := h y hy; simp; omega)]
theorem seqD_more {L : List It} (F : TFit L) (c : List UInt8 → Nat) : ∀ (k : Nat) (d : List UInt8), (∀ x ∈ L, (cs x.t).length ≤ (cs d).length + k) → seqD c L (k + 1) d = seqD c L k d
  | 0, d, h => by
    show _ ++ [dirN c L 1 d] = [dirN c L 0 d]
    rw [inD_none F h, dirN_more F c 0 d h]; rfl
  | k + 1, d, h => by
    show _ ++ [dirN c L (k + 2) d] = _ ++ [dirN c L (k + 1) d]
    rw [dirN_more F c (k + 1) d h]
    congr 1
    refine flatMap_same fun x hx => ?_
    have hm := mem_inD.1 hx
    have e := (dir_iff (F.path x hm.1)).1 hm.2
    rw [seqD_more F c k x.t (fun y hy => by rw [e, List.length_append]; have := h y hy; simp; omega)]
end Go.Proofs.YtlccihidedfemaaGreatDoor
namespace Go.Proofs.YtlccihidedfemaaGreatDoor
open Go.RowKit
theorem builderAtF_own {β : Type} (T e : TypeId) (B b : Nat) (p : Value) (bs : β → List Value) : Own (fun (s : β) W => Lib.BuilderAtF T e B b p (bs s) W) := by
  rintro s W W' row ⟨hB, v, hb, hown, hne⟩ hg hr
  have hlt := (Array.getElem?_eq_some_iff.1 hb).1
  refine ⟨hB, v, ?_, ?_, hne⟩
  · rw [hg.block b hlt ?_]
    · exact hb
    · intro h
      obtain ⟨o, ho, hc⟩ := hr b h.symm
      rw [hb] at ho; cases ho; cases hc
  · refine hown.kept hg ?_
    rcases hob : v.ownBlock with _ | g
    · exact .inl rfl
    · refine .inr fun h => ?_
      obtain ⟨o, ho, hc⟩ := hr g h.symm
      obtain ⟨c, fz, hg2⟩ := Lib.ownsRowF_kind hown g hob
      rw [hg2] at ho; cases ho; cases hc
theorem isBuilderF_own {β : Type} (T e : TypeId) (B b : Nat) (bs : β → List Value) : Own (fun (s : β) W => Lib.IsBuilderF T e B b (bs s) W) := by
  intro s W W' row h hg hr
  rcases h with h | h
  · exact .inl (builderAtF_own T e B b _ bs s W W' row h hg hr)
  · exact .inr (builderAtF_own T e B b _ bs s W W' row h hg hr)
theorem keeps_of_others {e : TypeId} {b : Nat} {W W' : World} (h : Lib.OthersKept e (some b) W W') (hs : W.heap.size ≤ W'.heap.size) (hb : ∃ o : Obj, W.heap[b]? = some o ∧ o.isCells = true) : KeepsOthers W W' := by
  refine ⟨hs, fun k o hk ho => h k o hk ?_ ?_⟩
  · intro hkb
    obtain ⟨o', ho', hc⟩ := hb
    cases hkb
    rw [hk] at ho'; cases ho'; rw [ho] at hc; cases hc
  · rintro c fz rfl
    cases ho
theorem isBuilderF_cells {T e : TypeId} {B b : Nat} {bs : List Value} {W : World} (h : Lib.IsBuilderF T e B b bs W) : ∃ o : Obj, W.heap[b]? = some o ∧ o.isCells = true := by
  rcases h with ⟨_, v, hb, _⟩ | ⟨_, v, hb, _⟩ <;> exact ⟨_, hb, rfl⟩
theorem boxed_keep {A B : World} {row : Option Nat} {b : Nat} {t : TypeId} {v : Value} (h : Boxed A b t v) (hg : A.grownBy B row) (hr : ∀ r, row = some r → ∃ o : Obj, A.heap[r]? = some o ∧ o.isCells = false) : Boxed B b t v := by
  refine h.kept hg fun e => ?_
  obtain ⟨o, ho, hc⟩ := hr b e.symm
  rw [show A.heap[b]? = _ from h] at ho; cases ho; cases hc
end Go.Proofs.YtlccihidedfemaaGreatDoor
set_option linter.unusedVariables false
namespace Go.Proofs.YtlccihidedfemaaGreatDoor
open Go.RowKit
attribute [local go_sem] Oper.semAt_some
theorem ie_t {a b : Int} (h : a = b) : (a == b) = true := beq_iff_eq.2 h
theorem ie_f {a b : Int} (h : a ≠ b) : (a == b) = false := beq_eq_false_iff_ne.2 h
theorem all_okPt_step {L : List Pt} {k : Nat} (hk : k < L.length) (h : (L.take k).all okPt = true) (hx : okPt L[k] = true) : (L.take (k + 1)).all okPt = true := by
  rw [List.take_succ_eq_append_getElem hk, List.all_append, h]; simpa using hx
theorem sumPt_step {L : List Pt} {k : Nat} (hk : k < L.length) : sumPt (L.take (k + 1)) = sumPt (L.take k) + L[k].n := by
  rw [List.take_succ_eq_append_getElem hk, sumPt_app]; simp [sumPt]
theorem sumPt_bd : ∀ {L : List Pt}, L.all okPt = true → 0 ≤ sumPt L ∧ sumPt L ≤ 4096 * L.length
  | [], _ => by simp [sumPt]
  | p :: L, h => by
    rw [List.all_cons, Bool.and_eq_true] at h
    have h1 := okPt_iff.1 h.1; have h2 := sumPt_bd h.2
    rw [sumPt, List.length_cons]; push_cast; omega
theorem fitFile_no {L : List Pt} {k : Nat} (hk : k < L.length) (hx : okPt L[k] = false) : fitFileB L = false := by
  unfold fitFileB
  rw [Bool.and_eq_false_iff]; left
  rw [List.all_eq_false]
  exact ⟨L[k], List.getElem_mem _, by rw [hx]; decide⟩
theorem okPt_no1 {x : Pt} (h : x.k.size ≠ 32) : okPt x = false := by unfold okPt; rw [decide_eq_false h]; rfl
def DirTo (L : List En) (k : Nat) : Prop := ∀ i (h : i < L.length), i < k → okEn L[i] = true ∧ (0 < i → (L[i - 1]'(by omega)).m.data.toList < L[i].m.data.toList)
theorem dirTo_zero (L : List En) : DirTo L 0 := fun i _ h => absurd h (by omega)
theorem dirTo_step {L : List En} {k : Nat} (h : DirTo L k) (hk : k < L.length) (h1 : okEn L[k] = true) (hr : 0 < k → (L[k - 1]'(by omega)).m.data.toList < L[k].m.data.toList) : DirTo L (k + 1) := fun i hi hik => by
  by_cases e : i = k
  · subst e; exact ⟨h1, hr⟩
  · exact h i hi (by omega)
theorem fitDir_all {L : List En} {k : Nat} (h : DirTo L k) (hk : L.length ≤ k) : fitDirB L = true := fitDir_iff.2 ⟨fun p hp => by
  obtain ⟨i, hi, rfl⟩ := List.mem_iff_getElem.1 hp
  exact (h i hi (by omega)).1, fun i hi h0 => (h i hi (by omega)).2 h0⟩
theorem fitDir_no {L : List En} {k : Nat} (hk : k < L.length) (hx : okEn L[k] = false) : fitDirB L = false := by
  rcases h : fitDirB L with _ | _
  · rfl
  · have := (fitDir_iff.1 h).1 _ (List.getElem_mem hk); rw [hx] at this; cases this
theorem fitDir_norise {L : List En} {k : Nat} (hk : k < L.length) (h0 : 0 < k) (hr : ¬ (L[k - 1]'(by omega)).m.data.toList < L[k].m.data.toList) : fitDirB L = false := by
  rcases h : fitDirB L with _ | _
  · rfl
  · exact absurd ((fitDir_iff.1 h).2 k hk h0) hr
theorem okEn_no1 {x : En} (h : nameB x.m.data.toList = false) : okEn x = false := by unfold okEn; rw [h]; rfl
theorem okEn_no2 {x : En} (h : x.k.size ≠ 32) : okEn x = false := by unfold okEn; rw [decide_eq_false h]; simp
theorem okEn_no3 {x : En} (h2 : x.kd ≠ 2) (h3 : x.kd ≠ 3) : okEn x = false := by unfold okEn; rw [decide_eq_false h2, decide_eq_false h3]; simp
end Go.Proofs.YtlccihidedfemaaGreatDoor
set_option linter.unusedVariables false
namespace Go.Proofs.YtlccihidedfemaaGreatDoor
open Go.RowKit Go.Shelf
theorem sizeBuilder : (Tryz.prog.info? 154).map (fun i => i.size) = some 2 := by kernel_rfl
theorem infoByte : (Tryz.prog.info? 5).map (fun i => (i.zero, i.size, i.bytes)) = some (some (.int .u8 0), 1, 1) := by kernel_rfl
theorem liesBuilder : liesAt Tryz.prog Tryz.prog.depth 154 (2 / Tryz.prog.cellsOf 154) 0 154 1 = true := by kernel_rfl
set_option maxHeartbeats 1000000 in
set_option maxRecDepth 100000 in
theorem copyCheck_used (b : Nat) (w : World) (h0 : w.cell? ⟨b, 0, none⟩ = some (.pointer (some ⟨b, 0, none⟩))) :
    Calls Tryz.prog 146 #[.pointer (some ⟨b, 0, none⟩)] w fun e w' => e = .returned (.tuple #[]) ∧ w' = w := by
  obtain ⟨j, hj, _⟩ := Option.map_eq_some_iff.1 sizeBuilder
  go_enter Tryz.func146, Tryz.ntmps146
  go_wp2
  rw [Lib.run_neq_ptr_same w _ Tryz.underlying152 hj]
  go_wp2
  go_end0
  exact ⟨rfl, rfl⟩
set_option maxHeartbeats 1000000 in
set_option maxRecDepth 100000 in
theorem copyCheck_fresh (b : Nat) (w : World) (h0 : w.cell? ⟨b, 0, none⟩ = some (.pointer none)) (hsh : w.shape? b = some (154, 2)) (hfz : w.frozen? ⟨b, 0, none⟩ = false) :
    Calls Tryz.prog 146 #[.pointer (some ⟨b, 0, none⟩)] w fun e w' => e = .returned (.tuple #[]) ∧ w' = w.setCell ⟨b, 0, none⟩ (.pointer (some ⟨b, 0, none⟩)) := by
  obtain ⟨j, hj, hjs⟩ := Option.map_eq_some_iff.1 sizeBuilder
  have hl := liesBuilder
  go_enter Tryz.func146, Tryz.ntmps146
  go_wp2
  rw [Lib.run_to_unsafe w ⟨b, 0, none⟩ Tryz.underlying152 Tryz.underlying180 hj (by rw [hjs]; decide) hsh (Nat.zero_lt_succ 1)]
  simp only [Result.andThen]
  rw [Oper.upon_value]
  go_wp2
  rw [run_callFunc_extern Tryz.func160 (by kernel_rfl) (by kernel_rfl) (by kernel_rfl) (e := Extern.AbiNoEscape.same) (by kernel_rfl)]
  rw [Lib.run_noEscape]
  simp only [Result.andThen]
  rw [Oper.upon_value]
  go_wp2
  rw [Lib.run_from_unsafe w ⟨b, 0, none⟩ Tryz.underlying180 Tryz.underlying152 hj hsh hl]
  simp only [Result.andThen]
  rw [Oper.upon_value]
  go_wp2
  go_end0
  exact ⟨rfl, rfl⟩
theorem copyCheck_k (B b : Nat) (bs : List Value) (w : World) (h : Lib.IsBuilderF 154 5 B b bs w) :
    Calls Tryz.prog 146 #[.pointer (some ⟨b, 0, none⟩)] w fun e w' => e = .returned (.tuple #[]) ∧ (Lib.BuilderAtF 154 5 B b (.pointer (some ⟨b, 0, none⟩)) bs w' ∧ Below B w w' ∧ Lib.OthersKept 5 (some b) w w') := by
  rcases h with h | h
  · refine (copyCheck_fresh b w h.cell0 h.shape h.frozen0).mono ?_
    rintro e w' ⟨rfl, rfl⟩
    exact ⟨rfl, h.used _, (Below.refl B w).setCell (p := ⟨b, 0, none⟩) h.1 _, (Lib.OthersKept.refl _ _ w).setCell ⟨b, 0, none⟩ rfl _⟩
  · refine (copyCheck_used b w h.cell0).mono ?_
    rintro e w' ⟨rfl, rfl⟩
    exact ⟨rfl, h, Below.refl B _, Lib.OthersKept.refl _ _ _⟩
set_option maxHeartbeats 2000000 in
set_option maxRecDepth 100000 in
theorem WriteByte_k (B b : Nat) (bs : List Value) (c : Int) (w : World) (h : Lib.IsBuilderF 154 5 B b bs w) (hlen : bs.length + 1 ≤ 140737488355328) (hBw : B ≤ w.heap.size) :
    Calls Tryz.prog 148 #[.pointer (some ⟨b, 0, none⟩), .int .u8 c] w fun e w' => e = .returned .nilIface ∧ (Lib.BuilderAtF 154 5 B b (.pointer (some ⟨b, 0, none⟩)) (bs ++ [.int .u8 c]) w' ∧ Below B w w' ∧ Lib.OthersKept 5 (some b) w w') := by
  obtain ⟨i0, hi, hz0, hz1, hz2⟩ := info_parts infoByte
  go_enter Tryz.func148, Tryz.ntmps148
  go_wp2_with (go_at_call 146; refine (copyCheck_k B b bs _ h).mono ?_)
  rintro e w1 ⟨rfl, h1, hb1, hk1⟩
  obtain ⟨hB, v, hbk, hown, hne⟩ := h1
  have c0 : w1.cell? ⟨b, 0, none⟩ = some (.pointer (some ⟨b, 0, none⟩)) := by rw [Lib.cell_of_heap hbk]; rfl
  have c1 : w1.cell? ⟨b, 1, none⟩ = some v := by rw [Lib.cell_of_heap hbk]; rfl
  go_wp2_with (at_builtin; refine wpList_append_ownF _ rfl _ _ 83 rfl B 5 i0 (.int .u8 0) 1 1 Tryz.underlying83 hi hz0 hz1 hz2 rfl (by decide) _ _ _ rfl (hown.alloc _) ⟨w1.heap.size, 0, none⟩ 1 1 [.int .u8 c] rfl rfl ?c1 ?c2 ?c3 ?c4 ?c5 ?_)
  case c1 =>
    intro j u hj
    match j, hj with
    | 0, hj => simp at hj; subst hj; simp [Addr.add]
  case c2 => intro u hu; simp at hu; subst hu; rfl
  case c3 => unfold maxLen; omega
  case c4 => omega
  case c5 => have := hb1.size; simp; omega
  intro v' w2 hown' hgrow _
  have hlt : b < w1.heap.size := (Array.getElem?_eq_some_iff.1 hbk).1
  have hb2 : w2.heap[b]? = some (.cells #[.pointer (some ⟨b, 0, none⟩), v] 154 (0, 0)) := by
    rw [hgrow.block b (by simp; omega) (fun e => hne e.symm), Lib.alloc_old w1 _ b hlt]
    exact hbk
  have d0 : w2.cell? ⟨b, 0, none⟩ = some (.pointer (some ⟨b, 0, none⟩)) := by rw [Lib.cell_of_heap hb2]; rfl
  have d1 : w2.cell? ⟨b, 1, none⟩ = some v := by rw [Lib.cell_of_heap hb2]; rfl
  have f1 : w2.frozen? ⟨b, 1, none⟩ = false := Lib.frozen_of_heap hb2 1
  obtain ⟨g, cap, rfl⟩ : ∃ g cap, v' = .slice (some ⟨g, 0, none⟩) (bs.length + 1) cap := by
    rcases hown'.2 with ⟨_, h0⟩ | ⟨g, cap, cur, fz, hv, _⟩
    · omega
    · exact ⟨g, cap, hv⟩
  go_wp2
  go_ret
  refine ⟨rfl, ?_, ?_, ((hk1.alloc _).grown hgrow (Lib.ownsRowF_kind (hown.alloc _))).setCell ⟨b, 1, none⟩ rfl _⟩
  · exact Lib.BuilderAtF.put (T := 154) (e := 5) hB hb2 (bs' := bs ++ [.int .u8 c]) (by simpa using hown') (by decide)
  · exact ((hb1.alloc (by have := hb1.size; omega) _).grown hgrow (by have := hb1.size; simp; omega) (fun k hk => (hown.lt k hk).1)).setCell (p := ⟨b, 1, none⟩) hB _
theorem cellsByte : Tryz.prog.cellsOf 5 = 1 := by kernel_rfl
set_option maxHeartbeats 2000000 in
set_option maxRecDepth 100000 in
theorem String_full_k (B b : Nat) (l : List UInt8) (w : World) (h : Lib.IsBuilderF 154 5 B b (Lib.byteCells l) w) (h0 : l ≠ []) :
    Calls Tryz.prog 128 #[.pointer (some ⟨b, 0, none⟩)] w fun e w' => e = .returned (.string ⟨l.toArray⟩) ∧ (Lib.IsBuilderF 154 5 B b (Lib.byteCells l) w' ∧ Below B w w' ∧ Lib.OthersKept 5 (some b) w w') := by
  obtain ⟨p, hp, hAt⟩ : ∃ p, (p = .pointer none ∨ p = .pointer (some ⟨b, 0, none⟩)) ∧ Lib.BuilderAtF 154 5 B b p (Lib.byteCells l) w := by
    rcases h with h | h
    · exact ⟨_, .inl rfl, h⟩
    · exact ⟨_, .inr rfl, h⟩
  obtain ⟨hB, v, hbk, hown, hne⟩ := hAt
  have hl0 : l.length ≠ 0 := by simpa using h0
  rw [Lib.byteCells_length] at hown
  obtain ⟨g, cap, cur, fz, rfl, hbg, hg, hfz, hnc, hcm, hcs, htake⟩ : ∃ g cap cur fz, v = .slice (some ⟨g, 0, none⟩) l.length cap ∧ B ≤ g ∧ w.heap[g]? = some (.cells cur 5 fz) ∧ fz.2 ≤ l.length * 1 ∧ l.length ≤ cap ∧ cap ≤ maxLen ∧ cur.size = cap * 1 ∧ cur.toList.take (l.length * 1) = Lib.byteCells l := by
    rcases hown.2 with ⟨_, hz⟩ | ⟨g, cap, cur, fz, hv, r⟩
    · exact absurd hz hl0
    · exact ⟨g, cap, cur, fz, hv, r⟩
  have c1 : w.drew.cell? ⟨b, 1, none⟩ = some (.slice (some ⟨g, 0, none⟩) l.length cap) := by
    have : w.drew.heap[b]? = some (.cells #[p, .slice (some ⟨g, 0, none⟩) l.length cap] 154 (0, 0)) := hbk
    rw [Lib.cell_of_heap this]; rfl
  have hSD : (Builtin.unsafeSliceData_ #[83] 175 #[.slice (some ⟨g, 0, none⟩) l.length cap]).run Tryz.prog w.drew = .ok (.pointer (some ⟨g, 0, none⟩)) w.drew :=
    Lib.run_unsafeSliceData_row _ _ _ _ _ _ (by omega)
  have hUS : (Builtin.unsafeString_ #[175, 3] 9 #[.pointer (some ⟨g, 0, none⟩), .int .i64 l.length]).run Tryz.prog w.drew = .ok (.string ⟨l.toArray⟩) (w.drew.freeze ⟨g, 0, none⟩ l.length) := by
    refine Lib.run_unsafeString_row w.drew 175 3 9 5 Tryz.underlying175 cellsByte g cur.size (by have hg' : w.drew.heap[g]? = some (.cells cur 5 fz) := hg; simp [World.shape?, hg']) l h0 (by omega) (by unfold maxLen at hcm; omega) ?_
    intro j x hx
    have := hown.cells (g := g) rfl j (.int .u8 x.toNat) (by simp [Lib.byteCells, hx])
    exact this
  have hkeep : Lib.IsBuilderF 154 5 B b (Lib.byteCells l) (w.drew.freeze ⟨g, 0, none⟩ l.length) := by
    have hA : Lib.BuilderAtF 154 5 B b p (Lib.byteCells l) w.drew := ⟨hB, _, hbk, by rw [Lib.byteCells_length]; exact hown, hne⟩
    have hF := hA.froze (g := g) (cap := cap) (by rw [Lib.byteCells_length]; exact c1)
    rw [Lib.byteCells_length] at hF
    rcases hp with rfl | rfl
    · exact .inl hF
    · exact .inr hF
  go_enter Tryz.func128, Tryz.ntmps128
  go_wp2
  go_region
  all_goals (go_wp2; go_ret; exact ⟨rfl, hkeep, Lib.below_freeze (Below.drew (Below.refl B w)) (p := ⟨g, 0, none⟩) hbg _, ((Lib.OthersKept.refl _ _ w).drew).freeze ⟨g, 0, none⟩ _ ⟨cur, fz, hg⟩⟩)
set_option maxHeartbeats 4000000 in
set_option maxRecDepth 100000 in
theorem stringslite_Clone (s : ByteArray) (w : World) (hlim : s.size ≤ 281474976710656) :
    Calls Tryz.prog 134 #[.string s] w fun e w' => e = .returned (.string s) ∧ Below w.heap.size w w' := by
  by_cases h0 : s.size = 0
  · have hs : s = ⟨#[]⟩ := by
      apply ByteArray.ext
      exact Array.eq_empty_of_size_eq_zero h0
    subst hs
    go_enter Tryz.func134, Tryz.ntmps134
    go_wp2
    go_ret
    exact ⟨rfl, Below.refl _ _⟩
  · obtain ⟨i0, hi, hz0, hz1, hz2⟩ := info_parts infoByte
    have hinfo : (Tryz.prog.info? 5).map (fun i => i.size) = some 1 := by rw [hi]; simp [hz1]
    obtain ⟨M, hM⟩ : ∃ M, M = madeCells (Value.int .u8 0).cells (((s.size : Nat) : Int).toNat * i0.size) := ⟨_, rfl⟩
    have hMs : M.size = s.size := by rw [hM, size_madeCells, hz1]; simp
    have hmk : ∀ W : World, (Instr.makeSlice 83 (.int .i64 (s.size : Int)) (.int .i64 (s.size : Int))).run Tryz.prog W = .ok (.slice (some ⟨W.heap.size, 0, none⟩) s.size s.size) (W.alloc (.cells M 5)) := fun W => by
      have h := run_make (P := Tryz.prog) W 83 5 i0 (.int .u8 0) Tryz.underlying83 hi hz0 .i64 .i64 (s.size : Int) (s.size : Int) (by omega) (by omega) (by rw [hz2]; omega) (by omega)
      rw [← hM] at h
      simpa using h
    clear hM
    have hcp := Lib.run_copy_row_string (P := Tryz.prog) (w.alloc (.cells M 5)) 83 9 3 5 w.heap.size 0 s.size s.size s M 5 Tryz.underlying83 hinfo (heap_alloc_new w _) (Nat.le_refl _) (by omega)
    obtain ⟨Y, hY⟩ : ∃ Y, Y = (M.toList.take 0 ++ Lib.byteCells s.data.toList ++ M.toList.drop (0 + s.size)).toArray := ⟨_, rfl⟩
    rw [← hY] at hcp
    have hYl : Y.toList = Lib.byteCells s.data.toList := by
      rw [hY, List.toList_toArray, List.take_zero, List.nil_append, List.drop_of_length_le (by rw [Array.length_toList]; omega), List.append_nil]
    have hYs : Y.size = s.size := by rw [← Array.length_toList, hYl, Lib.byteCells_length, ← Lib.size_eq]
    have hgY : ((w.alloc (.cells M 5)).setRow w.heap.size Y).heap[w.heap.size]? = some (.cells Y 5 (0, 0)) := setRow_heap _ _ M _ 5 (0, 0) (heap_alloc_new w _)
    have hne : s.data.toList ≠ [] := fun e => h0 (by rw [Lib.size_eq, e]; rfl)
    have hUS := Lib.run_unsafeString_row (P := Tryz.prog) ((w.alloc (.cells M 5)).setRow w.heap.size Y) 175 3 9 5 Tryz.underlying175 cellsByte w.heap.size Y.size (by unfold World.shape?; rw [hgY]) s.data.toList hne (by rw [← Lib.size_eq]; omega) (by rw [← Lib.size_eq]; omega)
      (fun j x hx => Lib.cells_of_row hgY Y.size j _ (by rw [List.take_of_length_le (by rw [Array.length_toList]; exact Nat.le_refl _), hYl]; simp [Lib.byteCells, hx]))
    rw [← Lib.size_eq] at hUS
    clear hY
    go_enter Tryz.func134, Tryz.ntmps134
    go_wp2
    go_ret
    have hb1 : Below w.heap.size w (w.alloc (.cells M 5)) := (Below.refl _ w).alloc (Nat.le_refl _) _
    have hb2 : Below w.heap.size (w.alloc (.cells M 5)) ((w.alloc (.cells M 5)).setRow w.heap.size Y) := ⟨rfl, rfl, rfl, by simp, fun k hk => setRow_other _ _ _ _ (by omega)⟩
    exact ⟨rfl, Lib.below_freeze (hb1.trans hb2) (p := ⟨w.heap.size, 0, none⟩) (Nat.le_refl _) _⟩
end Go.Proofs.YtlccihidedfemaaGreatDoor
set_option linter.unusedVariables false
namespace Go.Proofs.YtlccihidedfemaaGreatDoor
open Go.RowKit
def left (v : Nat) (pre : List UInt8) (k r : Nat) : Prop := r < 128 ^ (k + 1) ∧ U64 r ∧ vput v = pre ++ vputF (k + 1) r
theorem left_step {v : Nat} {pre : List UInt8} {k r : Nat} (h : left v pre k r) (hr : 128 ≤ r) : left v (pre ++ [UInt8.ofNat (r % 128 + 128)]) (k - 1) (r / 128) := by
  obtain ⟨h1, h2, h3⟩ := h
  obtain ⟨j, rfl⟩ : ∃ j, k = j + 1 := by
    cases k with
    | zero => simp at h1; omega
    | succ j => exact ⟨j, rfl⟩
  refine ⟨?_, h2.div _, ?_⟩
  · rw [Nat.add_sub_cancel, Nat.div_lt_iff_lt_mul (by decide)]; rw [Nat.pow_succ] at h1; exact h1
  · rw [h3, vputF_hi hr]; simp
theorem left_pre {v : Nat} {pre : List UInt8} {k r : Nat} (h : left v pre k r) (hr : 128 ≤ r) : pre ++ [UInt8.ofNat (r % 128 + 128)] <+: vput v := by
  rw [(left_step h hr).2.2]; exact List.prefix_append _ _
end Go.Proofs.YtlccihidedfemaaGreatDoor
set_option linter.unusedVariables false
namespace Go.Proofs.YtlccihidedfemaaGreatDoor
open Go.RowKit Go.Shelf
attribute [local go_sem] Oper.semAt_some
abbrev encB (c : UInt8) : Value := .int .u8 c.toNat
set_option maxHeartbeats 1000000 in
set_option maxRecDepth 100000 in
theorem numberBytes1_stops (F : Fence) (n : Nat) (hf : F.fn 161) (hro : F.round = none) (hn : 1 ≤ n) (Bn : Nat) (Kp : World → World → Prop) (v : Nat) (hv : U64 v) (w : World) (hB : Bn < w.heap.size)
    (hc : w.cell? ⟨Bn, 0, none⟩ = some (.int .u64 v)) :
    SeqStopsK F n Tryz.prog 161 #[.pointer (some ⟨Bn, 0, none⟩)] (fun c => #[encB c]) Kp (fun xs => xs = vput v) (fun pre => pre <+: vput v) (vput v).length w := fun l J Jx W hW hJ hJx hY h0 => by
  have hc1 : W.cell? ⟨Bn, 0, none⟩ = some (.int .u64 v) := (hW.cell (p := ⟨Bn, 0, none⟩) hB).trans hc
  refine callsIn_of_wp Tryz.func161 rfl hf ?_ hro
  simp only [Tryz.ntmps161, List.size_toArray, List.length_cons, List.length_nil, Nat.reduceAdd, Nat.reduceSub, Array.replicate_succ, Array.replicate_zero, List.push_toArray, List.append_toArray, List.nil_append, List.cons_append]
  gi_wp2
  gi_loopw [3] (fun p wr => ∃ (pre : List UInt8) (k r : Nat), p = .int .u64 r ∧ left v pre k r ∧ J pre wr)
    (fun p wr => (intOf p).toNat)
  case atStart =>
    exact ⟨[], 9, v, rfl, ⟨by unfold U64 at hv; omega, hv, rfl⟩, h0⟩
  case round =>
    obtain ⟨pre, k, r, rfl, hl, hJs⟩ := hrel
    have hu : U64 r := hl.2.1
    by_cases h : 128 ≤ r
    · have hY1 := hY pre (UInt8.ofNat (r % 128 + 128)) wr hJs (by rw [hl.2.2, vputF_hi h]; simp)
      obtain ⟨fn, tmps, assign, body, hy, hR⟩ := hY1
      simp only [encB] at hy
      rw [← low_byte hu] at hy
      clear hY
      gi_wp2
      refine hR.mono ?_
      rintro e W3 (⟨rfl, hJ3, hk3⟩ | ⟨rfl, hJx3⟩)
      · gi_wp2
        go_roundw
        case rel => 
          refine ⟨_, k - 1, r / 128, by go_num, left_step hl h, hJ3⟩
        case measure => simp [intOf]; omega
      · gi_wp2
        refine bodyPost_ret (results_none rfl _ _ _) rfl ?_
        exact ⟨⟨_, rfl⟩, .inr ⟨_, left_pre hl h, hJx3⟩⟩
    · have hlt : r < 128 := by omega
      have hY1 := hY pre (UInt8.ofNat r) wr hJs (by rw [hl.2.2, vputF_lo hlt]; simp)
      obtain ⟨fn, tmps, assign, body, hy, hR⟩ := hY1
      simp only [encB] at hy
      rw [last_byte hlt] at hy
      clear hY
      have hfin : vput v = pre ++ [UInt8.ofNat r] := by rw [hl.2.2, vputF_lo hlt]
      have Hfin := Lib.hid hfin; clear hfin
      gi_wp2
      refine hR.mono ?_
      rintro e W3 (⟨rfl, hJ3, hk3⟩ | ⟨rfl, hJx3⟩)
      · gi_wp2
        go_end0
        exact ⟨⟨_, rfl⟩, .inl ⟨_, Hfin.out.symm, hJ3⟩⟩
      · gi_wp2
        go_end0
        exact ⟨⟨_, rfl⟩, .inr ⟨_, by rw [Hfin.out]; exact List.prefix_refl _, hJx3⟩⟩
theorem numberBytes_any (v : Nat) (w : World) :
    Calls Tryz.prog 147 #[.int .u64 v] w fun e w' => e = .returned (.func (.func 161) #[] #[.pointer (some ⟨w.heap.size, 0, none⟩)]) ∧ w' = w.alloc (.cells #[.int .u64 v] 70) := by
  go_enter Tryz.func147, Tryz.ntmps147
  go_wp2
  go_ret
  exact ⟨rfl, rfl⟩
set_option maxRecDepth 100000 in
set_option maxHeartbeats 2000000 in
theorem Put_any (v : Nat) (hv : U64 v) (w : World) :
    Calls Tryz.prog 127 #[.int .u64 v] w fun e w' => e = .returned (.string ⟨(vput v).toArray⟩) ∧ Below w.heap.size w w' := by
  refine (callsIn_wide (n := 5)).1 ?_
  have hro : Fence.wide.round = none := rfl
  refine callsIn_of_wp_marks Tryz.func127 rfl trivial ?_ hro
  simp only [Tryz.ntmps127, List.size_toArray, List.length_cons, List.length_nil, Nat.reduceAdd, Nat.reduceSub, Array.replicate_succ, Array.replicate_zero, List.push_toArray, List.append_toArray, List.nil_append, List.cons_append]
  gi_wp2_with (refine ⟨trivial, ?_⟩; gi_at_call 147; refine (callsIn_wide.2 (numberBytes_any v _)).mono ?_; rintro e w' ⟨rfl, rfl⟩)
  have hc := (Boxed.new (w.alloc (.cells #[.pointer none, .slice none 0 0] 154)) 70 (.int .u64 v)).cell
  rw [World.size_alloc] at hc
  have hB0 : Below w.heap.size w ((w.alloc (.cells #[.pointer none, .slice none 0 0] 154)).alloc (.cells #[.int .u64 v] 70)) := ((Below.refl _ w).alloc (Nat.le_refl _) _).alloc (by simp) _
  have hI0 : Lib.IsBuilderF 154 5 w.heap.size w.heap.size [] ((w.alloc (.cells #[.pointer none, .slice none 0 0] 154)).alloc (.cells #[.int .u64 v] 70)) :=
    (Lib.IsBuilderF.of (Lib.fresh_isBuilder 154 5 w)).alloc _
  refine wpIn_rangeFunc_ownF hro (by decide) (gf := 161) (lb := #[.pointer (some ⟨w.heap.size + 1, 0, none⟩)]) rfl trivial (enters_of Tryz.func161 (by kernel_rfl) rfl)
    (numberBytes1_stops Fence.wide 4 trivial hro (by decide) (w.heap.size + 1) (Below w.heap.size) v hv _ (by simp) hc) belowK_t (belowK_b (by simp; omega)) (Below.refl _ _) (fun _ => rfl)
    (fun pre W => Lib.IsBuilderF 154 5 w.heap.size w.heap.size (Lib.byteCells pre) W ∧ Below w.heap.size w W)
    (fun _ _ _ => False)
    (OwnFrom.and (Own.from (isBuilderF_own 154 5 w.heap.size w.heap.size (fun pre : List UInt8 => Lib.byteCells pre)) _) (ownFrom_below (Nat.le_refl _) (by simp; omega)))
    (fun _ _ _ _ _ hs _ _ => hs)
    ⟨hI0, hB0⟩
    (fun x => { tmps := #[.int .u64 v, undef, .string { data := #[] }, .pointer (some ⟨w.heap.size, 0, none⟩), encB x, .int .u64 v, .func (.func 161) #[] #[.pointer (some ⟨w.heap.size + 1, 0, none⟩)], encB x, undef, undef, undef], defers := [] }) ?assign ?body ?done ?stop
  case assign =>
    intro l x W K hK
    gi_wp2
    exact hK
  case body =>
    rintro l pre x W ⟨hI, hB⟩ hlen
    have hl10 := vput_len v
    have hcc : (Lib.byteCells pre).length + 1 ≤ 140737488355328 := by rw [Lib.byteCells_length]; omega
    have hbw := hB.size
    gi_wp2_with (refine ⟨trivial, ?_⟩; gi_at_call 148; refine (CallsIn.inRound l (callsIn_wide.2 (WriteByte_k w.heap.size w.heap.size (Lib.byteCells pre) _ W hI hcc hbw))).mono ?_; rintro e w' ⟨rfl, hb', hbel, hoth⟩)
    refine ⟨keeps_of_others hoth hbel.size (isBuilderF_cells hI), hbel, .inr ?_, hB.trans hbel⟩
    rw [Lib.byteCells_append]; exact hb'
  case done =>
    rintro D xs W hD rfl ⟨hI, hB⟩ hK
    have hne : vput v ≠ [] := fun h => by have := vput_pos v; rw [h] at this; simp at this
    gi_wp2_with (refine ⟨trivial, ?_⟩; gi_at_call 128; refine (callsIn_wide.2 (String_full_k w.heap.size w.heap.size (vput v) W hI hne)).mono ?_; rintro e w' ⟨rfl, hI', hbel, hoth⟩)
    have hK' := hoth D _ hK (fun h => by cases h; obtain ⟨o, ho, hc⟩ := isBuilderF_cells hI; rw [hK] at ho; cases ho; cases hc) (fun _ _ h => by cases h)
    refine ⟨by simp, .inl ⟨_, _, rfl, run_takeDeferred hK', ?_⟩⟩
    exact ⟨_, results_tmp rfl _ _ _, rfl, (hB.trans hbel).trans (belowK_b (w := w) (Nat.le_refl _) w' D _ _ (by simp at hD; omega) hK' rfl rfl)⟩
  case stop =>
    rintro D c pre W _ _ h _
    exact h.elim
end Go.Proofs.YtlccihidedfemaaGreatDoor
set_option linter.unusedVariables false
namespace Go.Proofs.YtlccihidedfemaaGreatDoor
open Go.RowKit
theorem bytes_append (a : List UInt8) (s : ByteArray) : (⟨a.toArray⟩ : ByteArray) ++ s = ⟨(a ++ s.data.toList).toArray⟩ := by
  apply ByteArray.ext
  rw [ByteArray.data_append]
  simp
set_option maxRecDepth 100000 in
theorem PutText_any (s : ByteArray) (hs : s.size ≤ maxLen) (w : World) :
    Calls Tryz.prog 129 #[.string s] w fun e w' => e = .returned (.string ⟨(vputText s.data.toList).toArray⟩) ∧ Below w.heap.size w w' := by
  have hsm : s.size ≤ 9223372036854775807 := by unfold maxLen at hs; omega
  have HS := Lib.hid (Lib.size_eq s)
  by_cases h : s.size ≤ 65536
  · have hu : U64 s.size := by unfold U64; omega
    have hv : vputText s.data.toList = vput s.size ++ s.data.toList := by rw [vputText, if_neg (by rw [← HS.out]; omega), ← HS.out]
    have HV := Lib.hid hv; clear hv
    have hl := vput_len s.size
    have hsum : ¬ 9223372036854775807 < (vput s.size).length + s.size := by omega
    go_enter Tryz.func129, Tryz.ntmps129
    go_wp2_with (go_at_call 127; refine (Put_any _ hu _).mono ?_; rintro e w' ⟨rfl, hb⟩)
    go_ret
    exact ⟨by rw [HV.out]; exact congrArg (fun x => Ending.returned (.string x)) (bytes_append _ s), hb⟩
  · have hv : vputText s.data.toList = [] := by rw [vputText, if_pos (by rw [← HS.out]; omega)]
    have HV := Lib.hid hv; clear hv
    go_enter Tryz.func129, Tryz.ntmps129
    go_wp2
    go_ret
    exact ⟨by rw [HV.out]; rfl, Below.refl _ _⟩
theorem wp_callx {P : Program} {o : Oper} {a : Act} {w : World} {K : Act → World → Prop} {Q : Exit → Act → World → Prop} (f : FuncId) (args : Array Operand) (tys : Array TypeId) (ho : o.op = .call { callee := .value (.func f), args := args, argTypes := tys })
    (hen : ∀ xs w, (callFunc f xs).run P w = .ok (.enter f xs) w) (xs : Array Value) (hxs : args.map a.eval = xs) {R : Value → World → Prop} (h : Calls P f xs w fun e w' => ∃ v, e = .returned v ∧ R v w') (hk : ∀ v w', R v w' → K (a.put o.dst v) w') : o.wp P a w K Q := by
  unfold Oper.wp execOp
  simp only [ho]
  simp [hxs, go_sem, hen]
  refine h.mono ?_
  rintro e w' ⟨v, rfl, hr⟩
  exact hk v w' hr
def appTs (l : List Nat) (R : Nat → World → World → Prop) (i : Nat) (w w' : World) : Prop := if i ∈ l then R i w w' else Below w.heap.size w w'
theorem appTs_at {l : List Nat} {R : Nat → World → World → Prop} {i : Nat} {w w' : World} (hi : i ∈ l) (h : R i w w') : appTs l R i w w' := by unfold appTs; rw [if_pos hi]; exact h
theorem appTs_in {l : List Nat} {R : Nat → World → World → Prop} {i : Nat} {w w' : World} (hi : i ∈ l) (h : appTs l R i w w') : R i w w' := by unfold appTs at h; rw [if_pos hi] at h; exact h
theorem appTs_other {l : List Nat} {R : Nat → World → World → Prop} {i : Nat} {w w' : World} (hi : i ∉ l) (h : Below w.heap.size w w') : appTs l R i w w' := by unfold appTs; rw [if_neg hi]; exact h
theorem appTs_out {l : List Nat} {R : Nat → World → World → Prop} {i : Nat} {w w' : World} (hi : i ∉ l) (h : appTs l R i w w') : Below w.heap.size w w' := by unfold appTs at h; rw [if_neg hi] at h; exact h
set_option maxRecDepth 100000 in
set_option maxHeartbeats 1000000 in
theorem size43 : (Tryz.prog.info? 116).map (·.size) = some 64 := by kernel_rfl
theorem size24 : (Tryz.prog.info? 87).map (·.size) = some 8 := by kernel_rfl
theorem zero43 : (Tryz.prog.info? 116).bind (fun i => i.zero.map (·.cells)) = some (zrow 64) := by kernel_rfl
theorem zero24 : (Tryz.prog.info? 87).bind (fun i => i.zero.map (·.cells)) = some (zrow 8) := by kernel_rfl
def kint : List Int := [1116352408, 1899447441, 3049323471, 3921009573, 961987163, 1508970993, 2453635748, 2870763221, 3624381080, 310598401, 607225278, 1426881987, 1925078388, 2162078206, 2614888103, 3248222580, 3835390401, 4022224774, 264347078, 604807628, 770255983, 1249150122, 1555081692, 1996064986, 2554220882, 2821834349, 2952996808, 3210313671, 3336571891, 3584528711, 113926993, 338241895, 666307205, 773529912, 1294757372, 1396182291, 1695183700, 1986661051, 2177026350, 2456956037, 2730485921, 2820302411, 3259730800, 3345764771, 3516065817, 3600352804, 4094571909, 275423344, 430227734, 506948616, 659060556, 883997877, 958139571, 1322822218, 1537002063, 1747873779, 1955562222, 2024104815, 2227730452, 2361852424, 2428436474, 2756734187, 3204031479, 3329325298]
theorem kint_eq : (kint.map (Value.int .u32)).toArray = numV ktab := by kernel_rfl
theorem ktab_len : ktab.length = 64 := rfl
set_option maxRecDepth 100000 in
set_option maxHeartbeats 1000000 in
theorem constants_any (w : World) : Calls Tryz.prog 183 #[] w fun e w' => e = .returned (.agg (numV ktab)) ∧ Below w.heap.size w w' := by
  go_enter Tryz.func183, Tryz.ntmps183
  go_wp2_with (first
    | refine wpList_alloc_zero rfl _ rfl _ zero43 ?_
    | (refine Great.wpList_buildFlatArr rfl 116 85 64 _ rfl .u32 kint Tryz.underlying116 (by kernel_rfl) (by kernel_rfl) (by kernel_rfl) ?_; rw [kint_eq])
    | refine wpList_store_row rfl 116 _ _ rfl w.heap.size (numV ktab) rfl rfl 116 (zrow 64) (heap_alloc_new _ _) (by rw [numV_size]; exact size43) (by rw [numV_size]; kernel_rfl) (numV_one _) ?_)
  refine bodyPost_ret (v := .agg (numV ktab)) (results_cell_row rfl _ _ w.heap.size 116 (numV ktab) (0, 0) _ rfl (setRow_heap _ _ (zrow 64) _ _ _ (heap_alloc_new _ _)) Tryz.underlying116 rfl (by rw [numV_size]; kernel_rfl)) rfl ⟨rfl, below_setRow ((Below.refl _ _).alloc (Nat.le_refl _) _) (Nat.le_refl _) _⟩
set_option maxRecDepth 100000 in
set_option maxHeartbeats 1000000 in
theorem First_any (w : World) : Calls Tryz.prog 140 #[] w fun e w' => e = .returned (.agg (numV first.list)) ∧ Below w.heap.size w w' := by
  go_enter Tryz.func140, Tryz.ntmps140
  go_wp2_with (first
    | refine wpList_alloc_zero rfl _ rfl _ zero24 ?_
    | refine wpList_store_row rfl 87 _ _ rfl w.heap.size (numV first.list) rfl rfl 87 (zrow 8) (heap_alloc_new _ _) (by rw [numV_size]; exact size24) (by rw [numV_size]; kernel_rfl) (numV_one _) ?_)
  refine bodyPost_ret (v := .agg (numV first.list)) (results_cell_row rfl _ _ w.heap.size 87 (numV first.list) (0, 0) _ rfl (setRow_heap _ _ (zrow 8) _ _ _ (heap_alloc_new _ _)) Tryz.underlying87 rfl (by rw [numV_size]; kernel_rfl)) rfl ⟨rfl, below_setRow ((Below.refl _ _).alloc (Nat.le_refl _) _) (Nat.le_refl _) _⟩
end Go.Proofs.YtlccihidedfemaaGreatDoor

/-
  Contracts over this translation: slices' symMerge at objects: one on the left; one on the right.
-/
import Derived.Test.YtlccihidedfemaaGreatDoorYbDtd
set_option linter.unusedVariables false
namespace Go.Proofs.YtlccihidedfemaaGreatDoor
open Go.RowKit Go.Sort
attribute [local go_sem] Oper.semAt_some
abbrev cmpV : Value := .func (.func 56) #[] #[]
def Merged (g cap : Nat) (P X Y Q : List Ob) (w : World) (e : Ending) (w' : World) : Prop :=
 e = .returned (.tuple #[]) ∧ ∃ S, RowO w' g cap (P ++ (S ++ Q)) ∧ S.length = X.length + Y.length ∧ Stab (X ++ Y) S ∧ SortO S ∧ Turned w w' g
theorem take_last {Y : List Ob} {r : Nat} (h : r < Y.length) : (Y.take (r + 1)).getLast? = some Y[r] := by
 rw [List.getLast?_eq_getElem?, List.length_take, Nat.min_eq_left (by omega), Nat.add_sub_cancel, List.getElem?_take, if_pos (by omega), List.getElem?_eq_getElem h]
theorem drop_head {Y : List Ob} {r : Nat} (h : r < Y.length) : (Y.drop r).head? = some Y[r] := by
 rw [List.head?_drop, List.getElem?_eq_getElem h]
theorem swp_fore (A R : List Ob) (x y : Ob) : swpO (A ++ x :: y :: R) A.length (A.length + 1) = A ++ y :: x :: R := by
 apply List.ext_getElem?
 intro i
 rw [swpO_get (by simp) (by simp)]
 rcases Nat.lt_or_ge i A.length with h | h
 ·rw [if_neg (by omega), if_neg (by omega), List.getElem?_append_left h, List.getElem?_append_left h]
 ·obtain ⟨r, rfl⟩ : ∃ r, i = A.length + r := ⟨i - A.length, by omega⟩
  match r with
  | 0 => simp
  | 1 => simp
  | r + 2 =>
   rw [if_neg (by omega), if_neg (by omega), List.getElem?_append_right (by omega), List.getElem?_append_right (by omega), show A.length + (r + 2) - A.length = r + 2 by omega]
   rfl
theorem RowO.one {w : World} {g cap : Nat} {A R : List Ob} {x : Ob} (h : RowO w g cap (A ++ x :: R)) {i : Nat} (hi : i = A.length) : w.cell? ⟨g, i * 2, none⟩ = some (.string x.k) ∧ w.cell? ⟨g, i * 2 + 1, none⟩ = some (.string x.r) := by
 have hl : i < (A ++ x :: R).length := by simp; omega
 have := h.at' hl
 rwa [show (A ++ x :: R)[i] = x by subst hi; simp] at this
set_option maxRecDepth 100000 in
set_option maxHeartbeats 4000000 in
theorem symMerge_left (g cap n a m b : Nat) (P Y Q : List Ob) (x : Ob) (w : World) (hR : RowO w g cap (P ++ ([x] ++ (Y ++ Q)))) (hn : n = (P ++ ([x] ++ (Y ++ Q))).length) (ha : a = P.length) (hm : m = P.length + 1) (hb : b = P.length + 1 + Y.length) (hY : SortO Y) (hL : n ≤ 1000000) :
  Calls Tryz.prog 110 #[.slice (some ⟨g, 0, none⟩) n cap, .int .i64 a, .int .i64 m, .int .i64 b, cmpV] w (Merged g cap P [x] Y Q w) := by
 have HR := Lib.hid hR
 have C := Lib.hid (fun x y w => byKey1_any x y w)
 have HN := Lib.hid (hn.trans (show _ = P.length + 1 + Y.length + Q.length by simp; omega))
 have HA := Lib.hid ha; have HB := Lib.hid hb; have HM := Lib.hid hm; have HY := Lib.hid hY
 have hbn : b ≤ n := by have := HN.out; omega
 have ham : a < m := by omega
 have hmb : m ≤ b := by omega
 have q1 : (m : Int) - (a : Int) = 1 := by omega
 clear hR hn ha hb hm hY
 go_enter Tryz.func110, Tryz.ntmps110
 go_wp2
 go_loopw [10, 11] (fun iv jv wr => ∃ p q : Nat, iv = .int .i64 (m + p : Nat) ∧ jv = .int .i64 (m + q : Nat) ∧ p ≤ q ∧ m + q ≤ b ∧ RowO wr g cap (P ++ ([x] ++ (Y ++ Q))) ∧ (∀ y ∈ (Y.take p).getLast?, y.t < x.t) ∧ (∀ y ∈ (Y.drop q).head?, ¬ y.t < x.t) ∧ Turned w wr g) (fun i j _ => (intOf j).toNat - (intOf i).toNat)
 case atStart => exact ⟨0, Y.length, by go_num, by congr 1; have := HM.out; have := HB.out; have := HA.out; omega, Nat.zero_le _, by have := HM.out; have := HB.out; have := HA.out; omega, HR.out, (fun y hy => by simp at hy), (fun y hy => by simp at hy), turned_refl _ _⟩
 case round =>
  obtain ⟨p, q, rfl, rfl, hpq, hqb, hR, h1, h2, hT⟩ := hrel
  have H1 := Lib.hid h1; have H2 := Lib.hid h2; have HT := Lib.hid hT; have HR1 := Lib.hid hR
  clear h1 h2 hT hR
  by_cases hlt : p < q
  ·obtain ⟨lo, hlo⟩ : ∃ lo, lo = m + p := ⟨_, rfl⟩
   obtain ⟨hi, hhi⟩ : ∃ hi, hi = m + q := ⟨_, rfl⟩
   rw [← hlo, ← hhi]
   have hlh : decide ((lo : Int) < (hi : Int)) = true := decide_eq_true (by omega)
   have hlh2 : lo < hi := by omega
   have hhb : hi ≤ n := by omega
   have hr : (lo + hi) / 2 - m < Y.length := by have := HM.out; have := HB.out; have := HA.out; omega
   have hrm : (lo + hi) / 2 = m + ((lo + hi) / 2 - m) := by omega
   have hrb1 : p ≤ (lo + hi) / 2 - m := by omega
   have hrb2 : (lo + hi) / 2 - m < q := by omega
   have HLO := Lib.hid hlo; have HHI := Lib.hid hhi
   clear hlo hhi
   obtain ⟨r, hr'⟩ : ∃ r, r = (lo + hi) / 2 - m := ⟨_, rfl⟩
   rw [← hr'] at hr hrm hrb1 hrb2
   have HRM := Lib.hid hrm
   clear hr' hrm
   have hYr : Y = Y.take r ++ Y[r] :: Y.drop (r + 1) := by rw [← List.drop_eq_getElem_cons hr, List.take_append_drop]
   have TL := Lib.hid (take_last hr); have DH := Lib.hid (drop_head hr)
   obtain ⟨y, hy⟩ : ∃ y, y = Y[r] := ⟨_, rfl⟩
   rw [← hy] at hYr TL DH
   obtain ⟨c0, c1⟩ := HR1.out.one (A := P) (i := a) HA.out
   obtain ⟨d0, d1⟩ : wr.cell? ⟨g, (lo + hi) / 2 * 2, none⟩ = some (.string y.k) ∧ wr.cell? ⟨g, (lo + hi) / 2 * 2 + 1, none⟩ = some (.string y.r) := by
    have h := HR1.out
    rw [hYr] at h
    exact RowO.one (A := P ++ x :: Y.take r) (R := Y.drop (r + 1) ++ Q) (by simpa using h) (by simp; have := HRM.out; have := HM.out; omega)
   clear hYr hy
   have hmn : (lo + hi) / 2 < n := by omega
   obtain ⟨W2, hW2⟩ : ∃ W2, W2 = wr := ⟨_, rfl⟩
   rw [← hW2] at c0 c1 d0 d1 HR1 HT ⊢
   clear hW2
   by_cases hxy : y.t < x.t
   ·have HC : Hid (∀ W, Calls Tryz.prog 56 #[obV y, obV x] W fun e w' => e = .returned (.int .i64 (-1)) ∧ Below W.heap.size W w') := Lib.hid (fun W => by
     have := C.out y x W; rwa [ordB_lt hxy] at this)
    have HXY := Lib.hid hxy
    clear hxy
    have k0 := fun d os => cell_regrown c0 d os
    have k1 := fun d os => cell_regrown c1 d os
    have k2 := fun d os => cell_regrown d0 d os
    have k3 := fun d os => cell_regrown d1 d os
    go_wp2_with fail
    refine wp_region_quiet_below (by kernel_rfl) (by kernel_rfl) ?_
    repeat (first | go_big_quiet_step (exact Calls.regrown_of (HC.out _)) | quiet_step (exact Calls.regrown_of (HC.out _)))
    refine wpQuiet_nil ?_
    intro wq hwq
    have hbq : Below W2.heap.size W2 wq := by obtain ⟨p, rfl⟩ := hwq; exact below_regrown _ _ _
    clear hwq k0 k1 k2 k3 c0 c1 d0 d1
    have HR3 := Lib.hid (HR1.out.stays hbq)
    have HT4 := Lib.hid (turned_step HT.out hbq)
    clear hbq
    go_wp2
    go_roundw
    case rel => exact ⟨r + 1, q, by have := HRM.out; congr 1; omega, by rw [HHI.out], by omega, hqb, HR3.out, (fun z hz => by rw [TL.out] at hz; cases hz; exact HXY.out), H2.out, HT4.out⟩
    case measure => simp [intOf]; omega
   ·obtain ⟨o, ho⟩ : ∃ o, o = ordB y.t x.t := ⟨_, rfl⟩
    have ho2 : decide (o < 0) = false := by rw [ho, ordB_neg]; exact decide_eq_false hxy
    have HC : Hid (∀ W, Calls Tryz.prog 56 #[obV y, obV x] W fun e w' => e = .returned (.int .i64 o) ∧ Below W.heap.size W w') := Lib.hid (fun W => by
     have := C.out y x W; rwa [← ho] at this)
    have HXY := Lib.hid hxy
    clear hxy ho
    have k0 := fun d os => cell_regrown c0 d os
    have k1 := fun d os => cell_regrown c1 d os
    have k2 := fun d os => cell_regrown d0 d os
    have k3 := fun d os => cell_regrown d1 d os
    go_wp2_with fail
    refine wp_region_quiet_below (by kernel_rfl) (by kernel_rfl) ?_
    repeat (first | go_big_quiet_step (exact Calls.regrown_of (HC.out _)) | quiet_step (exact Calls.regrown_of (HC.out _)))
    refine wpQuiet_nil ?_
    intro wq hwq
    have hbq : Below W2.heap.size W2 wq := by obtain ⟨p, rfl⟩ := hwq; exact below_regrown _ _ _
    clear hwq k0 k1 k2 k3 c0 c1 d0 d1
    have HR3 := Lib.hid (HR1.out.stays hbq)
    have HT4 := Lib.hid (turned_step HT.out hbq)
    clear hbq
    go_wp2
    go_roundw
    case rel => exact ⟨p, r, by rw [HLO.out], by have := HRM.out; congr 1; omega, by omega, by omega, HR3.out, H1.out, (fun z hz => by rw [DH.out] at hz; cases hz; exact HXY.out), HT4.out⟩
    case measure => simp [intOf]; omega
  ·have hpe : q = p := by omega
   subst hpe
   have hb2 : decide (((m + q : Nat) : Int) < ((m + q : Nat) : Int)) = false := decide_eq_false (by omega)
   obtain ⟨i, hi⟩ : ∃ i, i = m + q := ⟨_, rfl⟩
   rw [← hi] at hb2 ⊢
   have HI := Lib.hid hi
   have hib : i ≤ b := by omega
   have hia : m ≤ i := by omega
   have hSO := HY.out
   rw [← List.take_append_drop q Y] at hSO
   have FIN := Lib.hid (stab_left hSO H1.out H2.out)
   have HQ : Hid (q ≤ Y.length) := Lib.hid (by have := HM.out; have := HB.out; have := HA.out; omega)
   clear hi hSO hlt hqb
   go_wp2
   go_loopw [13] (fun kv wr => ∃ (k : Nat) (Y1 Z1 : List Ob), kv = .int .i64 k ∧ k = a + Y1.length ∧ Y1 ++ Z1 = Y.take q ∧ RowO wr g cap (P ++ (Y1 ++ (x :: (Z1 ++ (Y.drop q ++ Q))))) ∧ Turned w wr g) (fun k _ => i - (intOf k).toNat)
   case atStart => exact ⟨a, [], Y.take q, rfl, by simp, rfl, by rw [← List.append_assoc (Y.take q), List.take_append_drop]; exact HR1.out, HT.out⟩
   case round =>
    obtain ⟨k, Y1, Z1, rfl, hk, hYZ, hR, hT⟩ := hrel
    have hlen := congrArg List.length hYZ
    rw [List.length_append, List.length_take, Nat.min_eq_left HQ.out] at hlen
    have HT := Lib.hid hT; have HYZ := Lib.hid hYZ; have HK := Lib.hid hk
    have hki : k + Z1.length + 1 = i := by have := HM.out; have := HI.out; have := HA.out; omega
    have HKI := Lib.hid hki
    clear hT hYZ hlen
    cases Z1 with
    | nil =>
     have hki : k + 1 = i := hki
     have hb3 : decide ((k : Int) < (i : Int) - 1) = false := decide_eq_false (by omega)
     have HR5 := Lib.hid hR
     clear hR hk hki
     go_wp2
     go_end0
     have e1 : Y1 = Y.take q := by have := HYZ.out; simpa using this
     rw [e1] at HR5
     exact ⟨rfl, Y.take q ++ x :: Y.drop q, by simpa using HR5.out, by simp; have := HQ.out; omega, by have := FIN.out.1; rw [List.take_append_drop] at this; exact this, FIN.out.2, HT.out⟩
    | cons z Z1 =>
     have hki' : k + (Z1.length + 1) + 1 = i := hki
     have hb3 : decide ((k : Int) < (i : Int) - 1) = true := decide_eq_true (by omega)
     have hkn : (k : Int) + 1 < (n : Int) := by omega
     have hkn2 : k < n := by omega
     have hk1 : (0 : Int) ≤ (k : Int) + 1 := by omega
     have hkt : ((k : Int) + 1).toNat = k + 1 := by omega
     obtain ⟨A, hA⟩ : ∃ A, A = P ++ Y1 := ⟨_, rfl⟩
     obtain ⟨R', hR'⟩ : ∃ R', R' = Z1 ++ (Y.drop q ++ Q) := ⟨_, rfl⟩
     have hrow : P ++ (Y1 ++ (x :: (z :: Z1 ++ (Y.drop q ++ Q)))) = A ++ x :: z :: R' := by rw [hA, hR']; simp
     have hAk : k = A.length := by rw [hA]; simp; have := HA.out; omega
     rw [hrow] at hR
     have hsw := hR.swp (i := k) (j := k + 1) (by simp; omega) (by simp; omega)
     have g0 : ∀ h, (A ++ x :: z :: R')[k]'h = x := fun h => by subst hAk; simp
     have g1 : ∀ h, (A ++ x :: z :: R')[k + 1]'h = z := fun h => by subst hAk; simp
     have e : swpO (A ++ x :: z :: R') k (k + 1) = P ++ ((Y1 ++ [z]) ++ (x :: (Z1 ++ (Y.drop q ++ Q)))) := by
      rw [hAk, swp_fore, hA, hR']; simp
     rw [g0, g1, e] at hsw
     obtain ⟨c0, c1⟩ : wr.cell? ⟨g, k * 2, none⟩ = some (.string x.k) ∧ wr.cell? ⟨g, k * 2 + 1, none⟩ = some (.string x.r) := RowO.one (A := A) (R := z :: R') hR hAk
     obtain ⟨d0, d1⟩ : wr.cell? ⟨g, (k + 1) * 2, none⟩ = some (.string z.k) ∧ wr.cell? ⟨g, (k + 1) * 2 + 1, none⟩ = some (.string z.r) := RowO.one (A := A ++ [x]) (R := R') (by simpa using hR) (by simp; omega)
     have hf := hR.free
     have HSW := Lib.hid hsw
     clear hR hsw e g0 g1 hAk hk hki hki' hrow hA hR'
     go_wp2_with fail
     go_region
     go_wp2
     have hdw : ∀ X : World, Below X.heap.size X X.drew := fun X => (Below.refl _ _).drew
     go_roundw
     case rel => exact ⟨k + 1, Y1 ++ [z], Z1, by go_num, by have := HK.out; simp; omega, by rw [← HYZ.out]; simp, HSW.out.1.stays (hdw _), turned_step (turned_trans HT.out HSW.out.2) (hdw _)⟩
     case measure => simp [intOf]; have := HKI.out; simp at this; omega
set_option maxRecDepth 100000 in
set_option maxHeartbeats 4000000 in
theorem symMerge_right (g cap n a m b : Nat) (P X Q : List Ob) (x : Ob) (w : World) (hR : RowO w g cap (P ++ (X ++ ([x] ++ Q)))) (hn : n = (P ++ (X ++ ([x] ++ Q))).length) (ha : a = P.length) (hm : m = P.length + X.length) (hb : b = P.length + X.length + 1) (hY : SortO X) (hL : n ≤ 1000000) (h2 : 2 ≤ X.length) :
  Calls Tryz.prog 110 #[.slice (some ⟨g, 0, none⟩) n cap, .int .i64 a, .int .i64 m, .int .i64 b, cmpV] w (Merged g cap P X [x] Q w) := by
 have HR := Lib.hid hR
 have C := Lib.hid (fun x y w => byKey1_any x y w)
 have HN := Lib.hid (hn.trans (show _ = P.length + 1 + X.length + Q.length by simp; omega))
 have HA := Lib.hid ha; have HB := Lib.hid hb; have HM := Lib.hid hm; have HY := Lib.hid hY
 have hbn : b ≤ n := by have := HN.out; omega
 have ham : a < m := by omega
 have hmb : m ≤ b := by omega
 have q0 : ((m : Int) - (a : Int) == 1) = false := beq_eq_false_iff_ne.2 (by omega)
 have q1 : (b : Int) - (m : Int) = 1 := by omega
 clear hR hn ha hb hm hY
 go_enter Tryz.func110, Tryz.ntmps110
 go_wp2
 go_loopw [14, 15] (fun iv jv wr => ∃ p q : Nat, iv = .int .i64 (a + p : Nat) ∧ jv = .int .i64 (a + q : Nat) ∧ p ≤ q ∧ a + q ≤ m ∧ RowO wr g cap (P ++ (X ++ ([x] ++ Q))) ∧ (∀ y ∈ (X.take p).getLast?, ¬ x.t < y.t) ∧ (∀ y ∈ (X.drop q).head?, x.t < y.t) ∧ Turned w wr g) (fun i j _ => (intOf j).toNat - (intOf i).toNat)
 case atStart => exact ⟨0, X.length, by go_num, by congr 1; have := HM.out; have := HB.out; have := HA.out; omega, Nat.zero_le _, by have := HM.out; have := HB.out; have := HA.out; omega, HR.out, (fun y hy => by simp at hy), (fun y hy => by simp at hy), turned_refl _ _⟩
 case round =>
  obtain ⟨p, q, rfl, rfl, hpq, hqb, hR, h1, h2, hT⟩ := hrel
  have H1 := Lib.hid h1; have H2 := Lib.hid h2; have HT := Lib.hid hT; have HR1 := Lib.hid hR
  clear h1 h2 hT hR
  by_cases hlt : p < q
  ·obtain ⟨lo, hlo⟩ : ∃ lo, lo = a + p := ⟨_, rfl⟩
   obtain ⟨hi, hhi⟩ : ∃ hi, hi = a + q := ⟨_, rfl⟩
   rw [← hlo, ← hhi]
   have hlh : decide ((lo : Int) < (hi : Int)) = true := decide_eq_true (by omega)
   have hlh2 : lo < hi := by omega
   have hhb : hi ≤ n := by omega
   have hr : (lo + hi) / 2 - a < X.length := by have := HM.out; have := HB.out; have := HA.out; omega
   have hrm : (lo + hi) / 2 = a + ((lo + hi) / 2 - a) := by omega
   have hrb1 : p ≤ (lo + hi) / 2 - a := by omega
   have hrb2 : (lo + hi) / 2 - a < q := by omega
   have HLO := Lib.hid hlo; have HHI := Lib.hid hhi
   clear hlo hhi
   obtain ⟨r, hr'⟩ : ∃ r, r = (lo + hi) / 2 - a := ⟨_, rfl⟩
   rw [← hr'] at hr hrm hrb1 hrb2
   have HRM := Lib.hid hrm
   clear hr' hrm
   have hYr : X = X.take r ++ X[r] :: X.drop (r + 1) := by rw [← List.drop_eq_getElem_cons hr, List.take_append_drop]
   have TL := Lib.hid (take_last hr); have DH := Lib.hid (drop_head hr)
   obtain ⟨y, hy⟩ : ∃ y, y = X[r] := ⟨_, rfl⟩
   rw [← hy] at hYr TL DH
   obtain ⟨c0, c1⟩ : wr.cell? ⟨g, m * 2, none⟩ = some (.string x.k) ∧ wr.cell? ⟨g, m * 2 + 1, none⟩ = some (.string x.r) :=
    RowO.one (A := P ++ X) (R := Q) (by simpa using HR1.out) (by simp; have := HM.out; omega)
   obtain ⟨d0, d1⟩ : wr.cell? ⟨g, (lo + hi) / 2 * 2, none⟩ = some (.string y.k) ∧ wr.cell? ⟨g, (lo + hi) / 2 * 2 + 1, none⟩ = some (.string y.r) := by
    have h := HR1.out
    rw [hYr] at h
    exact RowO.one (A := P ++ X.take r) (R := X.drop (r + 1) ++ (x :: Q)) (by simpa using h) (by simp; have := HRM.out; have := HA.out; omega)
   clear hYr hy
   have hmn : (lo + hi) / 2 < n := by omega
   have hmn2 : m < n := by omega
   obtain ⟨W2, hW2⟩ : ∃ W2, W2 = wr := ⟨_, rfl⟩
   rw [← hW2] at c0 c1 d0 d1 HR1 HT ⊢
   clear hW2
   by_cases hxy : x.t < y.t
   ·have HC : Hid (∀ W, Calls Tryz.prog 56 #[obV x, obV y] W fun e w' => e = .returned (.int .i64 (-1)) ∧ Below W.heap.size W w') := Lib.hid (fun W => by
     have := C.out x y W; rwa [ordB_lt hxy] at this)
    have HXY := Lib.hid hxy
    clear hxy
    have k0 := fun d os => cell_regrown c0 d os
    have k1 := fun d os => cell_regrown c1 d os
    have k2 := fun d os => cell_regrown d0 d os
    have k3 := fun d os => cell_regrown d1 d os
    go_wp2_with fail
    refine wp_region_quiet_below (by kernel_rfl) (by kernel_rfl) ?_
    repeat (first | go_big_quiet_step (exact Calls.regrown_of (HC.out _)) | quiet_step (exact Calls.regrown_of (HC.out _)))
    refine wpQuiet_nil ?_
    intro wq hwq
    have hbq : Below W2.heap.size W2 wq := by obtain ⟨p, rfl⟩ := hwq; exact below_regrown _ _ _
    clear hwq k0 k1 k2 k3 c0 c1 d0 d1
    have HR3 := Lib.hid (HR1.out.stays hbq)
    have HT4 := Lib.hid (turned_step HT.out hbq)
    clear hbq
    go_wp2
    go_roundw
    case rel => exact ⟨p, r, by rw [HLO.out], by have := HRM.out; congr 1; omega, by omega, by omega, HR3.out, H1.out, (fun z hz => by rw [DH.out] at hz; cases hz; exact HXY.out), HT4.out⟩
    case measure => simp [intOf]; omega
   ·obtain ⟨o, ho⟩ : ∃ o, o = ordB x.t y.t := ⟨_, rfl⟩
    have ho2 : decide (o < 0) = false := by rw [ho, ordB_neg]; exact decide_eq_false hxy
    have HC : Hid (∀ W, Calls Tryz.prog 56 #[obV x, obV y] W fun e w' => e = .returned (.int .i64 o) ∧ Below W.heap.size W w') := Lib.hid (fun W => by
     have := C.out x y W; rwa [← ho] at this)
    have HXY := Lib.hid hxy
    clear hxy ho
    have k0 := fun d os => cell_regrown c0 d os
    have k1 := fun d os => cell_regrown c1 d os
    have k2 := fun d os => cell_regrown d0 d os
    have k3 := fun d os => cell_regrown d1 d os
    go_wp2_with fail
    refine wp_region_quiet_below (by kernel_rfl) (by kernel_rfl) ?_
    repeat (first | go_big_quiet_step (exact Calls.regrown_of (HC.out _)) | quiet_step (exact Calls.regrown_of (HC.out _)))
    refine wpQuiet_nil ?_
    intro wq hwq
    have hbq : Below W2.heap.size W2 wq := by obtain ⟨p, rfl⟩ := hwq; exact below_regrown _ _ _
    clear hwq k0 k1 k2 k3 c0 c1 d0 d1
    have HR3 := Lib.hid (HR1.out.stays hbq)
    have HT4 := Lib.hid (turned_step HT.out hbq)
    clear hbq
    go_wp2
    go_roundw
    case rel => exact ⟨r + 1, q, by have := HRM.out; congr 1; omega, by rw [HHI.out], by omega, hqb, HR3.out, (fun z hz => by rw [TL.out] at hz; cases hz; exact HXY.out), H2.out, HT4.out⟩
    case measure => simp [intOf]; omega
  ·have hpe : q = p := by omega
   subst hpe
   have hb2 : decide (((a + q : Nat) : Int) < ((a + q : Nat) : Int)) = false := decide_eq_false (by omega)
   obtain ⟨i, hi⟩ : ∃ i, i = a + q := ⟨_, rfl⟩
   rw [← hi] at hb2 ⊢
   have HI := Lib.hid hi
   have hib : i ≤ m := by omega
   have hia : a ≤ i := by omega
   have hSO := HY.out
   rw [← List.take_append_drop q X] at hSO
   have FIN := Lib.hid (stab_right hSO H1.out H2.out)
   have HQ : Hid (q ≤ X.length) := Lib.hid (by have := HM.out; have := HB.out; have := HA.out; omega)
   clear hi hSO hlt hqb
   go_wp2
   go_loopw [17] (fun kv wr => ∃ (k : Nat) (Z1 Z2 : List Ob), kv = .int .i64 k ∧ k = i + Z1.length ∧ Z1 ++ Z2 = X.drop q ∧ RowO wr g cap (P ++ (X.take q ++ (Z1 ++ (x :: (Z2 ++ Q))))) ∧ Turned w wr g) (fun k _ => (intOf k).toNat)
   case atStart => exact ⟨m, X.drop q, [], rfl, by rw [List.length_drop]; have := HI.out; have := HM.out; have := HA.out; have := HQ.out; omega, by simp, by rw [← List.append_assoc (X.take q), List.take_append_drop]; exact HR1.out, HT.out⟩
   case round =>
    obtain ⟨k, Z1, Z2, rfl, hk, hZZ, hR, hT⟩ := hrel
    have hlen := congrArg List.length hZZ
    rw [List.length_append, List.length_drop] at hlen
    have hkm : k ≤ m := by have := HI.out; have := HM.out; have := HA.out; have := HQ.out; omega
    have HT := Lib.hid hT; have HZZ := Lib.hid hZZ; have HK := Lib.hid hk
    clear hT hZZ hlen
    rcases List.eq_nil_or_concat Z1 with e | ⟨Z0, z, e⟩
    ·subst e
     have hki : k = i := by simpa using hk
     have hb3 : decide ((k : Int) > (i : Int)) = false := decide_eq_false (by omega)
     have hb4 : ¬ (i : Int) < (k : Int) := by omega
     have HR5 := Lib.hid hR
     clear hR hk hki
     go_wp2
     go_end0
     have e1 : Z2 = X.drop q := by have := HZZ.out; simpa using this
     rw [e1] at HR5
     exact ⟨rfl, X.take q ++ x :: X.drop q, by simpa using HR5.out, by simp; have := HQ.out; omega, by have := FIN.out.1; rw [List.take_append_drop] at this; exact this, FIN.out.2, HT.out⟩
    ·rw [List.concat_eq_append] at e
     subst e
     have hk' : k = i + (Z0.length + 1) := by simpa using hk
     have hb3 : decide ((k : Int) > (i : Int)) = true := decide_eq_true (by omega)
     have hb4 : (i : Int) < (k : Int) := by omega
     have hkn : (k : Int) - 1 < (n : Int) := by omega
     have hkn2 : k < n := by omega
     have hk1 : (0 : Int) ≤ (k : Int) - 1 := by omega
     have hkt : ((k : Int) - 1).toNat = k - 1 := by omega
     obtain ⟨A, hA⟩ : ∃ A, A = P ++ X.take q ++ Z0 := ⟨_, rfl⟩
     have hrow : P ++ (X.take q ++ (Z0 ++ [z] ++ (x :: (Z2 ++ Q)))) = A ++ z :: x :: (Z2 ++ Q) := by rw [hA]; simp
     have hAk : k = A.length + 1 := by rw [hA]; simp; have := HI.out; have := HA.out; have := HQ.out; omega
     rw [hrow] at hR
     have hsw := hR.swp (i := k) (j := k - 1) (by simp; omega) (by simp; omega)
     have g0 : ∀ h, (A ++ z :: x :: (Z2 ++ Q))[k]'h = x := fun h => by subst hAk; simp
     have g1 : ∀ h, (A ++ z :: x :: (Z2 ++ Q))[k - 1]'h = z := fun h => by subst hAk; simp
     have e : swpO (A ++ z :: x :: (Z2 ++ Q)) k (k - 1) = P ++ (X.take q ++ (Z0 ++ (x :: ((z :: Z2) ++ Q)))) := by
      rw [hAk, show A.length + 1 - 1 = A.length by omega, swp_next, hA]; simp
     rw [g0, g1, e] at hsw
     obtain ⟨c0, c1⟩ : wr.cell? ⟨g, k * 2, none⟩ = some (.string x.k) ∧ wr.cell? ⟨g, k * 2 + 1, none⟩ = some (.string x.r) := RowO.one (A := A ++ [z]) (R := Z2 ++ Q) (by simpa using hR) (by simp; omega)
     obtain ⟨d0, d1⟩ : wr.cell? ⟨g, (k - 1) * 2, none⟩ = some (.string z.k) ∧ wr.cell? ⟨g, (k - 1) * 2 + 1, none⟩ = some (.string z.r) := RowO.one (A := A) (R := x :: (Z2 ++ Q)) hR (by omega)
     have hf := hR.free
     have HSW := Lib.hid hsw
     clear hR hsw e g0 g1 hAk hk hk' hrow hA
     go_wp2_with fail
     go_region
     go_wp2
     have hdw : ∀ X : World, Below X.heap.size X X.drew := fun X => (Below.refl _ _).drew
     go_roundw
     case rel => exact ⟨k - 1, Z0, z :: Z2, by go_num, by have := HK.out; simp at this; omega, by rw [← HZZ.out]; simp, HSW.out.1.stays (hdw _), turned_step (turned_trans HT.out HSW.out.2) (hdw _)⟩
     case measure => simp [intOf]; omega
end Go.Proofs.YtlccihidedfemaaGreatDoor

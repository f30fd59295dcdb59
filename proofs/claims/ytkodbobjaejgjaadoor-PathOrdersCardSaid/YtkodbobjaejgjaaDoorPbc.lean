/-
  Layer 9: PathOrders.
-/
import Derived.Test.YtkodbobjaejgjaaDoorPba
import Derived.Test.YtkodbobjaejgjaaDoorPbm
set_option linter.unusedVariables false
namespace Go.Proofs.YtkodbobjaejgjaaDoor
open Go.RowKit Go.Shelf
attribute [local go_sem] Oper.semAt_some

theorem inside_eq (a b : ByteArray) : ((b.extract 0 (a.size + 1)).toList == (a ++ (⟨#[47]⟩ : ByteArray)).toList) = decide (b.data.toList.take (a.data.toList.length + 1) = a.data.toList ++ [47]) := by
  rw [Lib.toList_data, Lib.toList_data, Lib.extract_data, bytes_app, Lib.size_eq, Bool.eq_iff_iff]
  simp

set_option maxRecDepth 100000 in
set_option maxHeartbeats 8000000 in
theorem PathOrders_walk (a b c : ByteArray) (w : World) : Calls Tryd.prog 6 #[.string a, .string b, .string c] w fun e w' => e = .returned (.bool true) ∧ Below w.heap.size w w' := by
  have AW := Lib.hid awake_any
  by_cases h1 : 1000 < a.size
  · have e1 : decide ((1000 : Int) < (a.size : Int)) = true := decide_eq_true (by omega)
    clear h1
    go_enter Tryd.func6, Tryd.ntmps6
    go_wp2_with fail
    refine (AW.out _).mono ?_
    rintro e u1 ⟨rfl, hb1⟩
    have hB := hb1
    go_wp2
    go_ret
    exact ⟨rfl, hB⟩
  · have e1 : decide ((1000 : Int) < (a.size : Int)) = false := decide_eq_false (by omega)
    by_cases h2 : 1000 < b.size
    · have e2 : decide ((1000 : Int) < (b.size : Int)) = true := decide_eq_true (by omega)
      clear h1 h2
      go_enter Tryd.func6, Tryd.ntmps6
      go_wp2_with fail
      refine (AW.out _).mono ?_
      rintro e u2 ⟨rfl, hb2⟩
      have hB := hb2
      go_wp2
      go_ret
      exact ⟨rfl, hB⟩
    · have e2 : decide ((1000 : Int) < (b.size : Int)) = false := decide_eq_false (by omega)
      by_cases h3 : 1000 < c.size
      · have e3 : decide ((1000 : Int) < (c.size : Int)) = true := decide_eq_true (by omega)
        clear h1 h2 h3
        go_enter Tryd.func6, Tryd.ntmps6
        go_wp2_with fail
        refine (AW.out _).mono ?_
        rintro e u3 ⟨rfl, hb3⟩
        have hB := hb3
        go_wp2
        go_ret
        exact ⟨rfl, hB⟩
      · have e3 : decide ((1000 : Int) < (c.size : Int)) = false := decide_eq_false (by omega)
        have hs1 : ¬ 9223372036854775807 < a.size + 1 := by omega
        have hs1' : ¬ 9223372036854775807 < a.size + sep1.size := hs1
        obtain ⟨asl, has⟩ : ∃ asl : ByteArray, asl = a ++ sep1 := ⟨_, rfl⟩
        have hasz : asl.size = a.size + 1 := by rw [has, size_of_app]; rfl
        have hs2 : ¬ 9223372036854775807 < asl.size + c.size := by omega
        obtain ⟨bel, hbel⟩ : ∃ bel : ByteArray, bel = asl ++ c := ⟨_, rfl⟩
        have hbl : bel.data.toList = a.data.toList ++ 47 :: c.data.toList := by rw [hbel, bytes_app, has, bytes_app]; simp
        have hbs : bel.size ≤ 2001 := by rw [hbel, size_of_app]; omega
        have O1 := Lib.hid (Order_any a b (by omega) (by omega))
        have O2 := Lib.hid (Order_any b a (by omega) (by omega))
        have O3 := Lib.hid (Order_any b c (by omega) (by omega))
        have O4 := Lib.hid (Order_any a c (by omega) (by omega))
        have O5 := Lib.hid (Order_any a bel (by omega) (by omega))
        have O6 := Lib.hid (Order_any bel b (by omega) (by omega))
        rw [order_turn a.data.toList b.data.toList] at O2
        rw [hbl, order_below] at O5
        rw [hbl] at O6
        have hsl := fun (h : a.size < b.size) W => run_slice_to (P := Tryd.prog) Tryd.underlying9 b (a.size + 1) (by omega) W
        have hin := inside_eq a b
        have HIN := Lib.hid hin
        have HIFF := Lib.hid (inside_iff a.data.toList b.data.toList)
        have HAS := Lib.hid has; have HBEL := Lib.hid hbel
        have HZ := Lib.hid order_zero
        have HTR := Lib.hid (@order_trans a.data.toList b.data.toList c.data.toList)
        have HAD := Lib.hid (@order_aside a.data.toList b.data.toList c.data.toList)
        clear has hbel hbl hin hasz hsl
        rcases order_three a.data.toList b.data.toList with hx | hx | hx
        · have hab : (a.toList == b.toList) = false := beq_false (fun e => by subst e; have := (HZ.out a.data.toList a.data.toList).2 rfl; rw [hx] at this; cases this)
          have HX := Lib.hid hx
          rw [hx] at O1 O2
          clear hx
          rcases order_three b.data.toList c.data.toList with hy | hy | hy
          · have hz := HTR.out HX.out hy
            rw [hy] at O3
            rw [hz] at O4
            clear hy hz
            by_cases hl : a.size < b.size
            · by_cases hq : b.data.toList.take (a.data.toList.length + 1) = a.data.toList ++ [47]
              · have hi : ((b.extract 0 (a.size + 1)).toList == (a ++ (⟨#[47]⟩ : ByteArray)).toList) = true := by rw [HIN.out]; exact decide_eq_true hq
                clear hq
                go_enter Tryd.func6, Tryd.ntmps6
                go_wp2_with fail
                refine (O1.out _).mono ?_
                rintro e u4 ⟨rfl, hb4⟩
                have hB := hb4
                go_wp2_with fail
                refine (O2.out _).mono ?_
                rintro e u5 ⟨rfl, hb5⟩
                replace hB := below_step hB hb5
                clear hb5
                go_wp2_with fail
                refine (O3.out _).mono ?_
                rintro e u6 ⟨rfl, hb6⟩
                replace hB := below_step hB hb6
                clear hb6
                go_wp2_with fail
                refine (O4.out _).mono ?_
                rintro e u7 ⟨rfl, hb7⟩
                replace hB := below_step hB hb7
                clear hb7
                go_wp2_with fail
                rw [← HAS.out, ← HBEL.out]
                go_wp2_with fail
                refine (O5.out _).mono ?_
                rintro e v5 ⟨rfl, hb5⟩
                replace hB := below_step hB hb5
                clear hb5
                go_wp2_with fail
                refine (AW.out _).mono ?_
                rintro e v9 ⟨rfl, hb9⟩
                replace hB := below_step hB hb9
                clear hb9
                go_wp2
                go_ret
                exact ⟨rfl, hB⟩
              · have hi : ((b.extract 0 (a.size + 1)).toList == (a ++ (⟨#[47]⟩ : ByteArray)).toList) = false := by rw [HIN.out]; exact decide_eq_false hq
                have H6 := HAD.out HX.out (fun t e => hq (HIFF.out.1 ⟨t, e⟩).2)
                rw [H6] at O6
                clear hq H6
                go_enter Tryd.func6, Tryd.ntmps6
                go_wp2_with fail
                refine (O1.out _).mono ?_
                rintro e u4 ⟨rfl, hb4⟩
                have hB := hb4
                go_wp2_with fail
                refine (O2.out _).mono ?_
                rintro e u5 ⟨rfl, hb5⟩
                replace hB := below_step hB hb5
                clear hb5
                go_wp2_with fail
                refine (O3.out _).mono ?_
                rintro e u6 ⟨rfl, hb6⟩
                replace hB := below_step hB hb6
                clear hb6
                go_wp2_with fail
                refine (O4.out _).mono ?_
                rintro e u7 ⟨rfl, hb7⟩
                replace hB := below_step hB hb7
                clear hb7
                go_wp2_with fail
                rw [← HAS.out, ← HBEL.out]
                go_wp2_with fail
                refine (O5.out _).mono ?_
                rintro e v5 ⟨rfl, hb5⟩
                replace hB := below_step hB hb5
                clear hb5
                go_wp2_with fail
                refine (O6.out _).mono ?_
                rintro e u8 ⟨rfl, hb8⟩
                replace hB := below_step hB hb8
                clear hb8
                go_wp2_with fail
                refine (AW.out _).mono ?_
                rintro e v9 ⟨rfl, hb9⟩
                replace hB := below_step hB hb9
                clear hb9
                go_wp2
                go_ret
                exact ⟨rfl, hB⟩
            · have H6 := HAD.out HX.out (fun t e => hl (by have := (HIFF.out.1 ⟨t, e⟩).1; rw [← Lib.size_eq, ← Lib.size_eq] at this; exact this))
              rw [H6] at O6
              clear H6
              go_enter Tryd.func6, Tryd.ntmps6
              go_wp2_with fail
              refine (O1.out _).mono ?_
              rintro e u4 ⟨rfl, hb4⟩
              have hB := hb4
              go_wp2_with fail
              refine (O2.out _).mono ?_
              rintro e u5 ⟨rfl, hb5⟩
              replace hB := below_step hB hb5
              clear hb5
              go_wp2_with fail
              refine (O3.out _).mono ?_
              rintro e u6 ⟨rfl, hb6⟩
              replace hB := below_step hB hb6
              clear hb6
              go_wp2_with fail
              refine (O4.out _).mono ?_
              rintro e u7 ⟨rfl, hb7⟩
              replace hB := below_step hB hb7
              clear hb7
              go_wp2_with fail
              rw [← HAS.out, ← HBEL.out]
              go_wp2_with fail
              refine (O5.out _).mono ?_
              rintro e v5 ⟨rfl, hb5⟩
              replace hB := below_step hB hb5
              clear hb5
              go_wp2_with fail
              refine (O6.out _).mono ?_
              rintro e u9 ⟨rfl, hb9⟩
              replace hB := below_step hB hb9
              clear hb9
              go_wp2_with fail
              refine (AW.out _).mono ?_
              rintro e v9 ⟨rfl, hb9⟩
              replace hB := below_step hB hb9
              clear hb9
              go_wp2
              go_ret
              exact ⟨rfl, hB⟩
          · rw [hy] at O3
            clear hy
            by_cases hl : a.size < b.size
            · by_cases hq : b.data.toList.take (a.data.toList.length + 1) = a.data.toList ++ [47]
              · have hi : ((b.extract 0 (a.size + 1)).toList == (a ++ (⟨#[47]⟩ : ByteArray)).toList) = true := by rw [HIN.out]; exact decide_eq_true hq
                clear hq
                go_enter Tryd.func6, Tryd.ntmps6
                go_wp2_with fail
                refine (O1.out _).mono ?_
                rintro e u10 ⟨rfl, hb10⟩
                have hB := hb10
                go_wp2_with fail
                refine (O2.out _).mono ?_
                rintro e u11 ⟨rfl, hb11⟩
                replace hB := below_step hB hb11
                clear hb11
                go_wp2_with fail
                refine (O3.out _).mono ?_
                rintro e u12 ⟨rfl, hb12⟩
                replace hB := below_step hB hb12
                clear hb12
                go_wp2_with fail
                rw [← HAS.out, ← HBEL.out]
                go_wp2_with fail
                refine (O5.out _).mono ?_
                rintro e v5 ⟨rfl, hb5⟩
                replace hB := below_step hB hb5
                clear hb5
                go_wp2_with fail
                refine (AW.out _).mono ?_
                rintro e v9 ⟨rfl, hb9⟩
                replace hB := below_step hB hb9
                clear hb9
                go_wp2
                go_ret
                exact ⟨rfl, hB⟩
              · have hi : ((b.extract 0 (a.size + 1)).toList == (a ++ (⟨#[47]⟩ : ByteArray)).toList) = false := by rw [HIN.out]; exact decide_eq_false hq
                have H6 := HAD.out HX.out (fun t e => hq (HIFF.out.1 ⟨t, e⟩).2)
                rw [H6] at O6
                clear hq H6
                go_enter Tryd.func6, Tryd.ntmps6
                go_wp2_with fail
                refine (O1.out _).mono ?_
                rintro e u10 ⟨rfl, hb10⟩
                have hB := hb10
                go_wp2_with fail
                refine (O2.out _).mono ?_
                rintro e u11 ⟨rfl, hb11⟩
                replace hB := below_step hB hb11
                clear hb11
                go_wp2_with fail
                refine (O3.out _).mono ?_
                rintro e u12 ⟨rfl, hb12⟩
                replace hB := below_step hB hb12
                clear hb12
                go_wp2_with fail
                rw [← HAS.out, ← HBEL.out]
                go_wp2_with fail
                refine (O5.out _).mono ?_
                rintro e v5 ⟨rfl, hb5⟩
                replace hB := below_step hB hb5
                clear hb5
                go_wp2_with fail
                refine (O6.out _).mono ?_
                rintro e u13 ⟨rfl, hb13⟩
                replace hB := below_step hB hb13
                clear hb13
                go_wp2_with fail
                refine (AW.out _).mono ?_
                rintro e v9 ⟨rfl, hb9⟩
                replace hB := below_step hB hb9
                clear hb9
                go_wp2
                go_ret
                exact ⟨rfl, hB⟩
            · have H6 := HAD.out HX.out (fun t e => hl (by have := (HIFF.out.1 ⟨t, e⟩).1; rw [← Lib.size_eq, ← Lib.size_eq] at this; exact this))
              rw [H6] at O6
              clear H6
              go_enter Tryd.func6, Tryd.ntmps6
              go_wp2_with fail
              refine (O1.out _).mono ?_
              rintro e u10 ⟨rfl, hb10⟩
              have hB := hb10
              go_wp2_with fail
              refine (O2.out _).mono ?_
              rintro e u11 ⟨rfl, hb11⟩
              replace hB := below_step hB hb11
              clear hb11
              go_wp2_with fail
              refine (O3.out _).mono ?_
              rintro e u12 ⟨rfl, hb12⟩
              replace hB := below_step hB hb12
              clear hb12
              go_wp2_with fail
              rw [← HAS.out, ← HBEL.out]
              go_wp2_with fail
              refine (O5.out _).mono ?_
              rintro e v5 ⟨rfl, hb5⟩
              replace hB := below_step hB hb5
              clear hb5
              go_wp2_with fail
              refine (O6.out _).mono ?_
              rintro e u14 ⟨rfl, hb14⟩
              replace hB := below_step hB hb14
              clear hb14
              go_wp2_with fail
              refine (AW.out _).mono ?_
              rintro e v9 ⟨rfl, hb9⟩
              replace hB := below_step hB hb9
              clear hb9
              go_wp2
              go_ret
              exact ⟨rfl, hB⟩
          · rw [hy] at O3
            clear hy
            by_cases hl : a.size < b.size
            · by_cases hq : b.data.toList.take (a.data.toList.length + 1) = a.data.toList ++ [47]
              · have hi : ((b.extract 0 (a.size + 1)).toList == (a ++ (⟨#[47]⟩ : ByteArray)).toList) = true := by rw [HIN.out]; exact decide_eq_true hq
                clear hq
                go_enter Tryd.func6, Tryd.ntmps6
                go_wp2_with fail
                refine (O1.out _).mono ?_
                rintro e u15 ⟨rfl, hb15⟩
                have hB := hb15
                go_wp2_with fail
                refine (O2.out _).mono ?_
                rintro e u16 ⟨rfl, hb16⟩
                replace hB := below_step hB hb16
                clear hb16
                go_wp2_with fail
                refine (O3.out _).mono ?_
                rintro e u17 ⟨rfl, hb17⟩
                replace hB := below_step hB hb17
                clear hb17
                go_wp2_with fail
                rw [← HAS.out, ← HBEL.out]
                go_wp2_with fail
                refine (O5.out _).mono ?_
                rintro e v5 ⟨rfl, hb5⟩
                replace hB := below_step hB hb5
                clear hb5
                go_wp2_with fail
                refine (AW.out _).mono ?_
                rintro e v9 ⟨rfl, hb9⟩
                replace hB := below_step hB hb9
                clear hb9
                go_wp2
                go_ret
                exact ⟨rfl, hB⟩
              · have hi : ((b.extract 0 (a.size + 1)).toList == (a ++ (⟨#[47]⟩ : ByteArray)).toList) = false := by rw [HIN.out]; exact decide_eq_false hq
                have H6 := HAD.out HX.out (fun t e => hq (HIFF.out.1 ⟨t, e⟩).2)
                rw [H6] at O6
                clear hq H6
                go_enter Tryd.func6, Tryd.ntmps6
                go_wp2_with fail
                refine (O1.out _).mono ?_
                rintro e u15 ⟨rfl, hb15⟩
                have hB := hb15
                go_wp2_with fail
                refine (O2.out _).mono ?_
                rintro e u16 ⟨rfl, hb16⟩
                replace hB := below_step hB hb16
                clear hb16
                go_wp2_with fail
                refine (O3.out _).mono ?_
                rintro e u17 ⟨rfl, hb17⟩
                replace hB := below_step hB hb17
                clear hb17
                go_wp2_with fail
                rw [← HAS.out, ← HBEL.out]
                go_wp2_with fail
                refine (O5.out _).mono ?_
                rintro e v5 ⟨rfl, hb5⟩
                replace hB := below_step hB hb5
                clear hb5
                go_wp2_with fail
                refine (O6.out _).mono ?_
                rintro e u18 ⟨rfl, hb18⟩
                replace hB := below_step hB hb18
                clear hb18
                go_wp2_with fail
                refine (AW.out _).mono ?_
                rintro e v9 ⟨rfl, hb9⟩
                replace hB := below_step hB hb9
                clear hb9
                go_wp2
                go_ret
                exact ⟨rfl, hB⟩
            · have H6 := HAD.out HX.out (fun t e => hl (by have := (HIFF.out.1 ⟨t, e⟩).1; rw [← Lib.size_eq, ← Lib.size_eq] at this; exact this))
              rw [H6] at O6
              clear H6
              go_enter Tryd.func6, Tryd.ntmps6
              go_wp2_with fail
              refine (O1.out _).mono ?_
              rintro e u15 ⟨rfl, hb15⟩
              have hB := hb15
              go_wp2_with fail
              refine (O2.out _).mono ?_
              rintro e u16 ⟨rfl, hb16⟩
              replace hB := below_step hB hb16
              clear hb16
              go_wp2_with fail
              refine (O3.out _).mono ?_
              rintro e u17 ⟨rfl, hb17⟩
              replace hB := below_step hB hb17
              clear hb17
              go_wp2_with fail
              rw [← HAS.out, ← HBEL.out]
              go_wp2_with fail
              refine (O5.out _).mono ?_
              rintro e v5 ⟨rfl, hb5⟩
              replace hB := below_step hB hb5
              clear hb5
              go_wp2_with fail
              refine (O6.out _).mono ?_
              rintro e u19 ⟨rfl, hb19⟩
              replace hB := below_step hB hb19
              clear hb19
              go_wp2_with fail
              refine (AW.out _).mono ?_
              rintro e v9 ⟨rfl, hb9⟩
              replace hB := below_step hB hb9
              clear hb9
              go_wp2
              go_ret
              exact ⟨rfl, hB⟩
        · rw [hx] at O1 O2
          have hab : (a.toList == b.toList) = true := beq_true (str_eq' ((HZ.out _ _).1 hx))
          clear hx
          by_cases hl : a.size < b.size
          · go_enter Tryd.func6, Tryd.ntmps6
            go_wp2_with fail
            refine (O1.out _).mono ?_
            rintro e u20 ⟨rfl, hb20⟩
            have hB := hb20
            go_wp2_with fail
            refine (O2.out _).mono ?_
            rintro e u21 ⟨rfl, hb21⟩
            replace hB := below_step hB hb21
            clear hb21
            go_wp2_with fail
            rw [← HAS.out, ← HBEL.out]
            go_wp2_with fail
            refine (O5.out _).mono ?_
            rintro e v5 ⟨rfl, hb5⟩
            replace hB := below_step hB hb5
            clear hb5
            go_wp2_with fail
            refine (AW.out _).mono ?_
            rintro e v9 ⟨rfl, hb9⟩
            replace hB := below_step hB hb9
            clear hb9
            go_wp2
            go_ret
            exact ⟨rfl, hB⟩
          · go_enter Tryd.func6, Tryd.ntmps6
            go_wp2_with fail
            refine (O1.out _).mono ?_
            rintro e u22 ⟨rfl, hb22⟩
            have hB := hb22
            go_wp2_with fail
            refine (O2.out _).mono ?_
            rintro e u23 ⟨rfl, hb23⟩
            replace hB := below_step hB hb23
            clear hb23
            go_wp2_with fail
            rw [← HAS.out, ← HBEL.out]
            go_wp2_with fail
            refine (O5.out _).mono ?_
            rintro e v5 ⟨rfl, hb5⟩
            replace hB := below_step hB hb5
            clear hb5
            go_wp2_with fail
            refine (AW.out _).mono ?_
            rintro e v9 ⟨rfl, hb9⟩
            replace hB := below_step hB hb9
            clear hb9
            go_wp2
            go_ret
            exact ⟨rfl, hB⟩
        · rw [hx] at O1 O2
          have hab : (a.toList == b.toList) = false := beq_false (fun e => by subst e; have := (HZ.out a.data.toList a.data.toList).2 rfl; rw [hx] at this; cases this)
          clear hx
          by_cases hl : a.size < b.size
          · go_enter Tryd.func6, Tryd.ntmps6
            go_wp2_with fail
            refine (O1.out _).mono ?_
            rintro e u24 ⟨rfl, hb24⟩
            have hB := hb24
            go_wp2_with fail
            refine (O2.out _).mono ?_
            rintro e u25 ⟨rfl, hb25⟩
            replace hB := below_step hB hb25
            clear hb25
            go_wp2_with fail
            rw [← HAS.out, ← HBEL.out]
            go_wp2_with fail
            refine (O5.out _).mono ?_
            rintro e v5 ⟨rfl, hb5⟩
            replace hB := below_step hB hb5
            clear hb5
            go_wp2_with fail
            refine (AW.out _).mono ?_
            rintro e v9 ⟨rfl, hb9⟩
            replace hB := below_step hB hb9
            clear hb9
            go_wp2
            go_ret
            exact ⟨rfl, hB⟩
          · go_enter Tryd.func6, Tryd.ntmps6
            go_wp2_with fail
            refine (O1.out _).mono ?_
            rintro e u26 ⟨rfl, hb26⟩
            have hB := hb26
            go_wp2_with fail
            refine (O2.out _).mono ?_
            rintro e u27 ⟨rfl, hb27⟩
            replace hB := below_step hB hb27
            clear hb27
            go_wp2_with fail
            rw [← HAS.out, ← HBEL.out]
            go_wp2_with fail
            refine (O5.out _).mono ?_
            rintro e v5 ⟨rfl, hb5⟩
            replace hB := below_step hB hb5
            clear hb5
            go_wp2_with fail
            refine (AW.out _).mono ?_
            rintro e v9 ⟨rfl, hb9⟩
            replace hB := below_step hB hb9
            clear hb9
            go_wp2
            go_ret
            exact ⟨rfl, hB⟩
end Go.Proofs.YtkodbobjaejgjaaDoor

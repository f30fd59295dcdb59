/-
  Contracts over this translation: the document's Put.
-/
import Derived.Test.YtelaamchafocpaaDoorYTic
import Derived.Test.YtelaamchafocpaaDoorYTif
import Derived.Test.YtelaamchafocpaaDoorQ1
set_option linter.unusedVariables false
namespace Go.Proofs.YtelaamchafocpaaDoor
open Go.RowKit
attribute [local go_sem] Oper.semAt_some

set_option maxRecDepth 100000 in
set_option maxHeartbeats 40000000 in
theorem rPut_any (v : Value) (L : List It) (x : It) (w : World) (h : IsItems w v L) (hr : Rise L) (hf : fewB L = true) (hx : x.p.size ≤ 400) (hxc : x.c.size ≤ 40000) :
    Calls Tryd.prog 21 #[v, itV x] w (RetI (putT L x) (wrongT L x) w) := by
  have HI := Lib.hid h
  have hsz : sizeT L ≤ 10000000 := by have := sizeT_few (fun x hx => (few_mem hf x hx).2); have := few_len hf; omega
  have P1 := Lib.hid (refFit_any x.p (by omega))
  have D1 := Lib.hid (refDir_any x.p (by omega))
  have FI := Lib.hid rFind_any
  have SI := Lib.hid rSize_any
  have WI := Lib.hid (fun v w h => rWith_any v L x w h hr hf hx)
  have hol : (foundI L x.t).c.size ≤ sizeT L := findT_size
  have HNO := Lib.hid (put_no (L := L) (x := x))
  have HYES := Lib.hid (put_yes (L := L) (x := x))
  obtain ⟨hm, a, cap, rfl, _, hc⟩ := h
  have hmm : L.length ≤ 9223372036854775807 := by unfold maxLen at hm; omega
  clear hc hf hr hm
  go_enter Tryd.func21, Tryd.ntmps21
  go_wp2_with fail
  have HX := Lib.hid (inBox_new w x 27)
  have HB0 := Lib.hid ((Below.refl w.heap.size w).alloc (Nat.le_refl _) (.cells #[.string x.p, .bool x.d, .bool x.e, .string x.c] 27))
  generalize w.alloc (.cells #[.string x.p, .bool x.d, .bool x.e, .string x.c] 27) = W1 at HX HB0 ⊢
  generalize w.heap.size = B1 at HX ⊢
  have HI1 := Lib.hid (HI.out.stays HB0.out)
  clear HI
  refine (P1.out _).mono ?_
  rintro e w2 ⟨rfl, hb⟩
  have HB2 := Lib.hid (below_step HB0.out hb)
  have HX2 := Lib.hid (HX.out.stays hb)
  have HI2 := Lib.hid (HI1.out.stays hb)
  clear hb HX HI1 HB0 P1
  rcases hpb : pathB x.t with _ | _
  · rw [show isPath x.p.data.toList = false from hpb]
    have HV := Lib.hid (wrong_7 (L := L) hpb)
    have HR := Lib.hid (HNO.out (by rw [HV.out]; decide))
    go_wp2
    go_ret2
    exact ⟨_, by rw [HV.out]; rfl, by rw [HR.out]; exact HI2.out, HB2.out⟩
  · rw [show isPath x.p.data.toList = true from hpb]
    have HPB := Lib.hid hpb
    clear hpb
    obtain ⟨d0, d1, d2, d3⟩ := HX2.out.cells
    rcases hdd : x.d with _ | _
    · have HFM : Hid (badI x = false) := show _ = _ by unfold badI; rw [hdd]; rfl
      clear d0 d1 d2 d3
      obtain ⟨d0, d1, d2, d3⟩ := HX2.out.cells
      go_wp2_with fail
      clear hdd
      refine (D1.out _).mono ?_
      rintro e w3 ⟨rfl, hb⟩
      rw [show x.p.data.toList = x.t from rfl]
      have HB3 := Lib.hid (below_step HB2.out hb)
      have HX3 := Lib.hid (HX2.out.stays hb)
      have HI3 := Lib.hid (HI2.out.stays hb)
      clear hb HX2 HI2 HB2 d0 d1 d2 d3 D1
      have F1 := Lib.hid (FI.out (.slice a L.length cap) L ⟨(dirS x.t).toArray⟩ w3 HI3.out)
      go_wp2_with fail
      refine F1.out.mono ?_
      rintro e w4 ⟨rfl, hb⟩
      have HB4 := Lib.hid (below_step HB3.out hb)
      have HX4 := Lib.hid (HX3.out.stays hb)
      have HI4 := Lib.hid (HI3.out.stays hb)
      clear hb HX3 HI3 HB3 F1
      obtain ⟨u, hu⟩ : ∃ u, u = foundI L (dirS x.t) := ⟨_, rfl⟩
      rw [← hu]
      have HU := Lib.hid hu
      clear hu
      by_cases hd : dirS x.t = []
      · have hd2 : (dirS x.t).isEmpty = true := by rw [hd]; rfl
        have HUP : Hid (UpOk L x) := Or.inl hd
        clear hd
        have HXU := Lib.hid (inBox_new w4 u 27)
        have hb5 := (Below.refl w4.heap.size w4).alloc (Nat.le_refl _) (.cells #[.string u.p, .bool u.d, .bool u.e, .string u.c] 27)
        have HB5 := Lib.hid (below_step HB4.out hb5)
        have HX5 := Lib.hid (HX4.out.stays hb5)
        have HI5 := Lib.hid (HI4.out.stays hb5)
        clear hb5 HX4 HI4 HB4
        obtain ⟨d0, d1, d2, d3⟩ := HX5.out.cells
        go_wp2_with fail
        clear d0 d1 d2 d3
        generalize w4.alloc (.cells #[.string u.p, .bool u.d, .bool u.e, .string u.c] 27) = W5 at HXU HB5 HX5 HI5 ⊢
        generalize w4.heap.size = B5 at HXU ⊢
        have F2 := Lib.hid (FI.out (.slice a L.length cap) L x.p W5 HI5.out)
        refine F2.out.mono ?_
        rintro e w6 ⟨rfl, hb⟩
        rw [show x.p.data.toList = x.t from rfl]
        have HB6 := Lib.hid (below_step HB5.out hb)
        have HX6 := Lib.hid (HX5.out.stays hb)
        have HU6 := Lib.hid (HXU.out.stays hb)
        have HI6 := Lib.hid (HI5.out.stays hb)
        clear hb HX5 HI5 HB5 HXU F2
        rcases hfo : findT L x.t with _ | o
        · have HFN := Lib.hid hfo
          have HFO := Lib.hid (foundI_none hfo)
          rw [foundI_none hfo]
          rw [foundI_none hfo] at hol
          clear hfo
          have HKO : Hid (KindOk L x) := show ∀ o, _ from fun o h => by rw [HFN.out] at h; cases h
          obtain ⟨o, ho⟩ : ∃ o, o = zeroIt := ⟨_, rfl⟩
          rw [← ho] at HFO hol
          rw [← ho]
          clear ho
          have HXO := Lib.hid (inBox_new w6 o 27)
          have hb7 := (Below.refl w6.heap.size w6).alloc (Nat.le_refl _) (.cells #[.string o.p, .bool o.d, .bool o.e, .string o.c] 27)
          have HB7 := Lib.hid (below_step HB6.out hb7)
          have HX7 := Lib.hid (HX6.out.stays hb7)
          have HU7 := Lib.hid (HU6.out.stays hb7)
          have HI7 := Lib.hid (HI6.out.stays hb7)
          clear hb7 HX6 HU6 HI6 HB6
          obtain ⟨d0, d1, d2, d3⟩ := HX7.out.cells
          obtain ⟨u0, u1, u2, u3⟩ := HU7.out.cells
          clear d0 u0 u2 u3
          go_wp2_with fail
          clear d1 d2 d3 u1
          generalize w6.alloc (.cells #[.string o.p, .bool o.d, .bool o.e, .string o.c] 27) = W7 at HXO HB7 HX7 HU7 HI7 ⊢
          generalize w6.heap.size = B7 at HXO ⊢
          obtain ⟨d0, d1, d2, d3⟩ := HX7.out.cells
          obtain ⟨o0, o1, o2, o3⟩ := HXO.out.cells
          clear d0 d1 d2 o0 o1 o2
          have S1 := Lib.hid (fun w h => SI.out (.slice a L.length cap) L w h (by omega))
          by_cases hs1 : 32768 < x.c.size
          · have g1 : decide ((32768 : Int) < (x.c.size : Int)) = true := decide_eq_true (by omega)
            have HC := Lib.hid hs1
            clear hs1
            go_quiet (fail)
            have HBq := Lib.hid (below_drewN HB7.out nq)
            have HIq := Lib.hid (HI7.out.stays (below_drewN (Below.refl _ _) nq))
            have HV := Lib.hid (wrong_4 HPB.out HFM.out HUP.out HKO.out (.inl HC.out))
            have HR := Lib.hid (HNO.out (by rw [HV.out]; decide))
            go_wp2
            go_ret2
            exact ⟨_, by rw [HV.out]; rfl, by rw [HR.out]; exact HIq.out, HBq.out⟩
          · have g1 : decide ((32768 : Int) < (x.c.size : Int)) = false := decide_eq_false (by omega)
            have y1 : IntKind.i64.wrap ((sizeT L : Int) - (o.c.size : Int)) = (sizeT L : Int) - (o.c.size : Int) := IntWalk.i64_in _ (by omega)
            have y2 : IntKind.i64.wrap ((sizeT L : Int) - (o.c.size : Int) + (x.c.size : Int)) = (sizeT L : Int) - (o.c.size : Int) + (x.c.size : Int) := IntWalk.i64_in _ (by omega)
            by_cases hs2 : 65536 + o.c.size < sizeT L + x.c.size
            · have g2 : decide ((65536 : Int) < (sizeT L : Int) - (o.c.size : Int) + (x.c.size : Int)) = true := decide_eq_true (by omega)
              have HC : Hid (65536 + (foundI L x.t).c.size < sizeT L + x.c.size) := show _ < _ by rw [HFO.out]; exact hs2
              clear hs1 hs2
              go_quiet (exact Calls.quiet_of_same ((S1.out _ (HI7.out.stays (below_drewN (Below.refl _ _) _))).mono fun _ _ h => ⟨h.1, h.2.symm⟩))
              have HBq := Lib.hid (below_drewN HB7.out nq)
              have HIq := Lib.hid (HI7.out.stays (below_drewN (Below.refl _ _) nq))
              have HV := Lib.hid (wrong_4 HPB.out HFM.out HUP.out HKO.out (.inr HC.out))
              have HR := Lib.hid (HNO.out (by rw [HV.out]; decide))
              go_wp2
              go_ret2
              exact ⟨_, by rw [HV.out]; rfl, by rw [HR.out]; exact HIq.out, HBq.out⟩
            · have g2 : decide ((65536 : Int) < (sizeT L : Int) - (o.c.size : Int) + (x.c.size : Int)) = false := decide_eq_false (by omega)
              have HC : Hid (¬ (32768 < x.c.size ∨ 65536 + (foundI L x.t).c.size < sizeT L + x.c.size)) := show ¬ _ from fun h => by rw [HFO.out] at h; exact h.elim hs1 hs2
              clear hs1 hs2
              go_quiet (exact Calls.quiet_of_same ((S1.out _ (HI7.out.stays (below_drewN (Below.refl _ _) _))).mono fun _ _ h => ⟨h.1, h.2.symm⟩))
              have HBq := Lib.hid (below_drewN HB7.out nq)
              have HIq := Lib.hid (HI7.out.stays (below_drewN (Below.refl _ _) nq))
              have HXq := Lib.hid (HX7.out.stays (below_drewN (Below.refl _ _) nq))
              clear d3 o3 g1 g2 y1 y2 HXO HU7 S1
              generalize W7.drewN nq = Wq at HBq HIq HXq ⊢
              clear HX7 HI7 HB7
              obtain ⟨d0, d1, d2, d3⟩ := HXq.out.cells
              by_cases h6 : 60 ≤ L.length
              · have g3 : decide ((60 : Int) ≤ (L.length : Int)) = true := decide_eq_true (by omega)
                have HM := Lib.hid h6
                clear h6
                have HV := Lib.hid (wrong_9 HPB.out HFM.out HUP.out HKO.out HC.out HFN.out HM.out)
                have HR := Lib.hid (HNO.out (by rw [HV.out]; decide))
                go_wp2
                go_ret2
                exact ⟨_, by rw [HV.out]; rfl, by rw [HR.out]; exact HIq.out, HBq.out⟩
              · have g3 : decide ((60 : Int) ≤ (L.length : Int)) = false := decide_eq_false (by omega)
                have HM := Lib.hid h6
                clear h6
                have HV := Lib.hid (wrong_0 HPB.out HFM.out HUP.out HKO.out HC.out (fun h => HM.out h.2))
                have HR := Lib.hid (HYES.out HV.out)
                have W1' := Lib.hid (WI.out (.slice a L.length cap) Wq HIq.out)
                go_wp2_with fail
                refine W1'.out.mono ?_
                rintro e w9 ⟨v9, rfl, hv9, hb⟩
                have HB9 := Lib.hid (below_step HBq.out hb)
                have HI9 := Lib.hid hv9
                clear hb hv9
                go_wp2
                go_ret2
                exact ⟨_, by rw [HV.out]; rfl, by rw [HR.out]; exact HI9.out, HB9.out⟩
        · have HFN := Lib.hid hfo
          have HFO := Lib.hid (foundI_some hfo)
          rw [foundI_some hfo]
          rw [foundI_some hfo] at hol
          clear hfo
          by_cases hk : o.d = x.d
          · have HKO : Hid (KindOk L x) := show ∀ o, _ from fun o' h => by rw [HFN.out] at h; cases h; exact hk
            have gk : (o.d == x.d) = true := beq_iff_eq.2 hk
            have gk2 : (o.d != x.d) = false := by rw [bne, gk]; rfl
            clear hk
            have HXO := Lib.hid (inBox_new w6 o 27)
            have hb7 := (Below.refl w6.heap.size w6).alloc (Nat.le_refl _) (.cells #[.string o.p, .bool o.d, .bool o.e, .string o.c] 27)
            have HB7 := Lib.hid (below_step HB6.out hb7)
            have HX7 := Lib.hid (HX6.out.stays hb7)
            have HU7 := Lib.hid (HU6.out.stays hb7)
            have HI7 := Lib.hid (HI6.out.stays hb7)
            clear hb7 HX6 HU6 HI6 HB6
            obtain ⟨d0, d1, d2, d3⟩ := HX7.out.cells
            obtain ⟨u0, u1, u2, u3⟩ := HU7.out.cells
            clear d0 u0 u2 u3
            go_wp2_with fail
            clear d1 d2 d3 u1
            generalize w6.alloc (.cells #[.string o.p, .bool o.d, .bool o.e, .string o.c] 27) = W7 at HXO HB7 HX7 HU7 HI7 ⊢
            generalize w6.heap.size = B7 at HXO ⊢
            obtain ⟨d0, d1, d2, d3⟩ := HX7.out.cells
            obtain ⟨o0, o1, o2, o3⟩ := HXO.out.cells
            clear d0 d1 d2 o0 o1 o2
            have S1 := Lib.hid (fun w h => SI.out (.slice a L.length cap) L w h (by omega))
            by_cases hs1 : 32768 < x.c.size
            · have g1 : decide ((32768 : Int) < (x.c.size : Int)) = true := decide_eq_true (by omega)
              have HC := Lib.hid hs1
              clear hs1
              go_quiet (fail)
              have HBq := Lib.hid (below_drewN HB7.out nq)
              have HIq := Lib.hid (HI7.out.stays (below_drewN (Below.refl _ _) nq))
              have HV := Lib.hid (wrong_4 HPB.out HFM.out HUP.out HKO.out (.inl HC.out))
              have HR := Lib.hid (HNO.out (by rw [HV.out]; decide))
              go_wp2
              go_ret2
              exact ⟨_, by rw [HV.out]; rfl, by rw [HR.out]; exact HIq.out, HBq.out⟩
            · have g1 : decide ((32768 : Int) < (x.c.size : Int)) = false := decide_eq_false (by omega)
              have y1 : IntKind.i64.wrap ((sizeT L : Int) - (o.c.size : Int)) = (sizeT L : Int) - (o.c.size : Int) := IntWalk.i64_in _ (by omega)
              have y2 : IntKind.i64.wrap ((sizeT L : Int) - (o.c.size : Int) + (x.c.size : Int)) = (sizeT L : Int) - (o.c.size : Int) + (x.c.size : Int) := IntWalk.i64_in _ (by omega)
              by_cases hs2 : 65536 + o.c.size < sizeT L + x.c.size
              · have g2 : decide ((65536 : Int) < (sizeT L : Int) - (o.c.size : Int) + (x.c.size : Int)) = true := decide_eq_true (by omega)
                have HC : Hid (65536 + (foundI L x.t).c.size < sizeT L + x.c.size) := show _ < _ by rw [HFO.out]; exact hs2
                clear hs1 hs2
                go_quiet (exact Calls.quiet_of_same ((S1.out _ (HI7.out.stays (below_drewN (Below.refl _ _) _))).mono fun _ _ h => ⟨h.1, h.2.symm⟩))
                have HBq := Lib.hid (below_drewN HB7.out nq)
                have HIq := Lib.hid (HI7.out.stays (below_drewN (Below.refl _ _) nq))
                have HV := Lib.hid (wrong_4 HPB.out HFM.out HUP.out HKO.out (.inr HC.out))
                have HR := Lib.hid (HNO.out (by rw [HV.out]; decide))
                go_wp2
                go_ret2
                exact ⟨_, by rw [HV.out]; rfl, by rw [HR.out]; exact HIq.out, HBq.out⟩
              · have g2 : decide ((65536 : Int) < (sizeT L : Int) - (o.c.size : Int) + (x.c.size : Int)) = false := decide_eq_false (by omega)
                have HC : Hid (¬ (32768 < x.c.size ∨ 65536 + (foundI L x.t).c.size < sizeT L + x.c.size)) := show ¬ _ from fun h => by rw [HFO.out] at h; exact h.elim hs1 hs2
                clear hs1 hs2
                go_quiet (exact Calls.quiet_of_same ((S1.out _ (HI7.out.stays (below_drewN (Below.refl _ _) _))).mono fun _ _ h => ⟨h.1, h.2.symm⟩))
                have HBq := Lib.hid (below_drewN HB7.out nq)
                have HIq := Lib.hid (HI7.out.stays (below_drewN (Below.refl _ _) nq))
                have HXq := Lib.hid (HX7.out.stays (below_drewN (Below.refl _ _) nq))
                clear d3 o3 g1 g2 y1 y2 HXO HU7 S1
                generalize W7.drewN nq = Wq at HBq HIq HXq ⊢
                clear HX7 HI7 HB7
                obtain ⟨d0, d1, d2, d3⟩ := HXq.out.cells
                have HV := Lib.hid (wrong_0 HPB.out HFM.out HUP.out HKO.out HC.out (fun h => by rw [HFN.out] at h; cases h.1))
                have HR := Lib.hid (HYES.out HV.out)
                have W1' := Lib.hid (WI.out (.slice a L.length cap) Wq HIq.out)
                go_wp2_with fail
                refine W1'.out.mono ?_
                rintro e w9 ⟨v9, rfl, hv9, hb⟩
                have HB9 := Lib.hid (below_step HBq.out hb)
                have HI9 := Lib.hid hv9
                clear hb hv9
                go_wp2
                go_ret2
                exact ⟨_, by rw [HV.out]; rfl, by rw [HR.out]; exact HI9.out, HB9.out⟩
          · have HKO := Lib.hid hk
            have gk : (o.d == x.d) = false := beq_eq_false_iff_ne.2 hk
            have gk2 : (o.d != x.d) = true := by rw [bne, gk]; rfl
            clear hk
            have hb7 := (Below.refl w6.heap.size w6).alloc (Nat.le_refl _) (.cells #[.string o.p, .bool o.d, .bool o.e, .string o.c] 27)
            have HB7 := Lib.hid (below_step HB6.out hb7)
            have HI7 := Lib.hid (HI6.out.stays hb7)
            have HX7 := Lib.hid (HX6.out.stays hb7)
            have HU7 := Lib.hid (HU6.out.stays hb7)
            clear hb7
            obtain ⟨d0, d1, d2, d3⟩ := HX7.out.cells
            obtain ⟨u0, u1, u2, u3⟩ := HU7.out.cells
            clear d0 d2 d3 u0 u2 u3
            have HV := Lib.hid (wrong_10b HPB.out HFM.out HUP.out HFN.out HKO.out)
            have HR := Lib.hid (HNO.out (by rw [HV.out]; decide))
            go_wp2
            go_ret2
            exact ⟨_, by rw [HV.out]; rfl, by rw [HR.out]; exact HI7.out, HB7.out⟩
      · have hd2 : (dirS x.t).isEmpty = false := by simpa using hd
        have HD := Lib.hid hd
        clear hd
        rcases hfs : (findT L (dirS x.t)).isSome with _ | _
        · have HFS := Lib.hid hfs
          clear hfs
          have hb5 := (Below.refl w4.heap.size w4).alloc (Nat.le_refl _) (.cells #[.string u.p, .bool u.d, .bool u.e, .string u.c] 27)
          have HB5 := Lib.hid (below_step HB4.out hb5)
          have HI5 := Lib.hid (HI4.out.stays hb5)
          clear hb5
          have HV := Lib.hid (wrong_5 HPB.out HFM.out HD.out HFS.out)
          have HR := Lib.hid (HNO.out (by rw [HV.out]; decide))
          go_wp2
          go_ret2
          exact ⟨_, by rw [HV.out]; rfl, by rw [HR.out]; exact HI5.out, HB5.out⟩
        · have HFS := Lib.hid hfs
          clear hfs
          rcases hud : u.d with _ | _
          · have HUD : Hid ((foundI L (dirS x.t)).d = false) := show _ = _ by rw [← HU.out]; exact hud
            have HUD2 := Lib.hid hud
            clear hud
            have HXU := Lib.hid (inBox_new w4 u 27)
            have hb5 := (Below.refl w4.heap.size w4).alloc (Nat.le_refl _) (.cells #[.string u.p, .bool u.d, .bool u.e, .string u.c] 27)
            have HB5 := Lib.hid (below_step HB4.out hb5)
            have HX5 := Lib.hid (HX4.out.stays hb5)
            have HI5 := Lib.hid (HI4.out.stays hb5)
            clear hb5 HX4 HI4 HB4
            obtain ⟨d0, d1, d2, d3⟩ := HX5.out.cells
            go_wp2_with fail
            clear d0 d1 d2 d3
            generalize w4.alloc (.cells #[.string u.p, .bool u.d, .bool u.e, .string u.c] 27) = W5 at HXU HB5 HX5 HI5 ⊢
            generalize w4.heap.size = B5 at HXU ⊢
            have F2 := Lib.hid (FI.out (.slice a L.length cap) L x.p W5 HI5.out)
            refine F2.out.mono ?_
            rintro e w6 ⟨rfl, hb⟩
            rw [show x.p.data.toList = x.t from rfl]
            have HB6 := Lib.hid (below_step HB5.out hb)
            have HU6 := Lib.hid (HXU.out.stays hb)
            have HI6 := Lib.hid (HI5.out.stays hb)
            clear hb HX5 HI5 HB5 HXU F2
            obtain ⟨o, ho⟩ : ∃ o, o = foundI L x.t := ⟨_, rfl⟩
            rw [← ho]
            clear ho hol
            have hb7 := (Below.refl w6.heap.size w6).alloc (Nat.le_refl _) (.cells #[.string o.p, .bool o.d, .bool o.e, .string o.c] 27)
            have HB7 := Lib.hid (below_step HB6.out hb7)
            have HI7 := Lib.hid (HI6.out.stays hb7)
            have HU7 := Lib.hid (HU6.out.stays hb7)
            clear hb7
            obtain ⟨u0, u1, u2, u3⟩ := HU7.out.cells
            clear u0 u2 u3
            rw [HUD2.out] at u1
            have HV := Lib.hid (wrong_10a HPB.out HFM.out HD.out HFS.out HUD.out)
            have HR := Lib.hid (HNO.out (by rw [HV.out]; decide))
            go_wp2
            go_ret2
            exact ⟨_, by rw [HV.out]; rfl, by rw [HR.out]; exact HI7.out, HB7.out⟩
          · have HUP : Hid (UpOk L x) := Or.inr ⟨HFS.out, by rw [← HU.out]; exact hud⟩
            have HUD := Lib.hid hud
            clear hud
            have HXU := Lib.hid (inBox_new w4 u 27)
            have hb5 := (Below.refl w4.heap.size w4).alloc (Nat.le_refl _) (.cells #[.string u.p, .bool u.d, .bool u.e, .string u.c] 27)
            have HB5 := Lib.hid (below_step HB4.out hb5)
            have HX5 := Lib.hid (HX4.out.stays hb5)
            have HI5 := Lib.hid (HI4.out.stays hb5)
            clear hb5 HX4 HI4 HB4
            obtain ⟨d0, d1, d2, d3⟩ := HX5.out.cells
            go_wp2_with fail
            clear d0 d1 d2 d3
            generalize w4.alloc (.cells #[.string u.p, .bool u.d, .bool u.e, .string u.c] 27) = W5 at HXU HB5 HX5 HI5 ⊢
            generalize w4.heap.size = B5 at HXU ⊢
            have F2 := Lib.hid (FI.out (.slice a L.length cap) L x.p W5 HI5.out)
            refine F2.out.mono ?_
            rintro e w6 ⟨rfl, hb⟩
            rw [show x.p.data.toList = x.t from rfl]
            have HB6 := Lib.hid (below_step HB5.out hb)
            have HX6 := Lib.hid (HX5.out.stays hb)
            have HU6 := Lib.hid (HXU.out.stays hb)
            have HI6 := Lib.hid (HI5.out.stays hb)
            clear hb HX5 HI5 HB5 HXU F2
            rcases hfo : findT L x.t with _ | o
            · have HFN := Lib.hid hfo
              have HFO := Lib.hid (foundI_none hfo)
              rw [foundI_none hfo]
              rw [foundI_none hfo] at hol
              clear hfo
              have HKO : Hid (KindOk L x) := show ∀ o, _ from fun o h => by rw [HFN.out] at h; cases h
              obtain ⟨o, ho⟩ : ∃ o, o = zeroIt := ⟨_, rfl⟩
              rw [← ho] at HFO hol
              rw [← ho]
              clear ho
              have HXO := Lib.hid (inBox_new w6 o 27)
              have hb7 := (Below.refl w6.heap.size w6).alloc (Nat.le_refl _) (.cells #[.string o.p, .bool o.d, .bool o.e, .string o.c] 27)
              have HB7 := Lib.hid (below_step HB6.out hb7)
              have HX7 := Lib.hid (HX6.out.stays hb7)
              have HU7 := Lib.hid (HU6.out.stays hb7)
              have HI7 := Lib.hid (HI6.out.stays hb7)
              clear hb7 HX6 HU6 HI6 HB6
              obtain ⟨d0, d1, d2, d3⟩ := HX7.out.cells
              obtain ⟨u0, u1, u2, u3⟩ := HU7.out.cells
              rw [HUD.out] at u1
              clear d0 u0 u2 u3
              go_wp2_with fail
              clear d1 d2 d3 u1
              generalize w6.alloc (.cells #[.string o.p, .bool o.d, .bool o.e, .string o.c] 27) = W7 at HXO HB7 HX7 HU7 HI7 ⊢
              generalize w6.heap.size = B7 at HXO ⊢
              obtain ⟨d0, d1, d2, d3⟩ := HX7.out.cells
              obtain ⟨o0, o1, o2, o3⟩ := HXO.out.cells
              clear d0 d1 d2 o0 o1 o2
              have S1 := Lib.hid (fun w h => SI.out (.slice a L.length cap) L w h (by omega))
              by_cases hs1 : 32768 < x.c.size
              · have g1 : decide ((32768 : Int) < (x.c.size : Int)) = true := decide_eq_true (by omega)
                have HC := Lib.hid hs1
                clear hs1
                go_quiet (fail)
                have HBq := Lib.hid (below_drewN HB7.out nq)
                have HIq := Lib.hid (HI7.out.stays (below_drewN (Below.refl _ _) nq))
                have HV := Lib.hid (wrong_4 HPB.out HFM.out HUP.out HKO.out (.inl HC.out))
                have HR := Lib.hid (HNO.out (by rw [HV.out]; decide))
                go_wp2
                go_ret2
                exact ⟨_, by rw [HV.out]; rfl, by rw [HR.out]; exact HIq.out, HBq.out⟩
              · have g1 : decide ((32768 : Int) < (x.c.size : Int)) = false := decide_eq_false (by omega)
                have y1 : IntKind.i64.wrap ((sizeT L : Int) - (o.c.size : Int)) = (sizeT L : Int) - (o.c.size : Int) := IntWalk.i64_in _ (by omega)
                have y2 : IntKind.i64.wrap ((sizeT L : Int) - (o.c.size : Int) + (x.c.size : Int)) = (sizeT L : Int) - (o.c.size : Int) + (x.c.size : Int) := IntWalk.i64_in _ (by omega)
                by_cases hs2 : 65536 + o.c.size < sizeT L + x.c.size
                · have g2 : decide ((65536 : Int) < (sizeT L : Int) - (o.c.size : Int) + (x.c.size : Int)) = true := decide_eq_true (by omega)
                  have HC : Hid (65536 + (foundI L x.t).c.size < sizeT L + x.c.size) := show _ < _ by rw [HFO.out]; exact hs2
                  clear hs1 hs2
                  go_quiet (exact Calls.quiet_of_same ((S1.out _ (HI7.out.stays (below_drewN (Below.refl _ _) _))).mono fun _ _ h => ⟨h.1, h.2.symm⟩))
                  have HBq := Lib.hid (below_drewN HB7.out nq)
                  have HIq := Lib.hid (HI7.out.stays (below_drewN (Below.refl _ _) nq))
                  have HV := Lib.hid (wrong_4 HPB.out HFM.out HUP.out HKO.out (.inr HC.out))
                  have HR := Lib.hid (HNO.out (by rw [HV.out]; decide))
                  go_wp2
                  go_ret2
                  exact ⟨_, by rw [HV.out]; rfl, by rw [HR.out]; exact HIq.out, HBq.out⟩
                · have g2 : decide ((65536 : Int) < (sizeT L : Int) - (o.c.size : Int) + (x.c.size : Int)) = false := decide_eq_false (by omega)
                  have HC : Hid (¬ (32768 < x.c.size ∨ 65536 + (foundI L x.t).c.size < sizeT L + x.c.size)) := show ¬ _ from fun h => by rw [HFO.out] at h; exact h.elim hs1 hs2
                  clear hs1 hs2
                  go_quiet (exact Calls.quiet_of_same ((S1.out _ (HI7.out.stays (below_drewN (Below.refl _ _) _))).mono fun _ _ h => ⟨h.1, h.2.symm⟩))
                  have HBq := Lib.hid (below_drewN HB7.out nq)
                  have HIq := Lib.hid (HI7.out.stays (below_drewN (Below.refl _ _) nq))
                  have HXq := Lib.hid (HX7.out.stays (below_drewN (Below.refl _ _) nq))
                  clear d3 o3 g1 g2 y1 y2 HXO HU7 S1
                  generalize W7.drewN nq = Wq at HBq HIq HXq ⊢
                  clear HX7 HI7 HB7
                  obtain ⟨d0, d1, d2, d3⟩ := HXq.out.cells
                  by_cases h6 : 60 ≤ L.length
                  · have g3 : decide ((60 : Int) ≤ (L.length : Int)) = true := decide_eq_true (by omega)
                    have HM := Lib.hid h6
                    clear h6
                    have HV := Lib.hid (wrong_9 HPB.out HFM.out HUP.out HKO.out HC.out HFN.out HM.out)
                    have HR := Lib.hid (HNO.out (by rw [HV.out]; decide))
                    go_wp2
                    go_ret2
                    exact ⟨_, by rw [HV.out]; rfl, by rw [HR.out]; exact HIq.out, HBq.out⟩
                  · have g3 : decide ((60 : Int) ≤ (L.length : Int)) = false := decide_eq_false (by omega)
                    have HM := Lib.hid h6
                    clear h6
                    have HV := Lib.hid (wrong_0 HPB.out HFM.out HUP.out HKO.out HC.out (fun h => HM.out h.2))
                    have HR := Lib.hid (HYES.out HV.out)
                    have W1' := Lib.hid (WI.out (.slice a L.length cap) Wq HIq.out)
                    go_wp2_with fail
                    refine W1'.out.mono ?_
                    rintro e w9 ⟨v9, rfl, hv9, hb⟩
                    have HB9 := Lib.hid (below_step HBq.out hb)
                    have HI9 := Lib.hid hv9
                    clear hb hv9
                    go_wp2
                    go_ret2
                    exact ⟨_, by rw [HV.out]; rfl, by rw [HR.out]; exact HI9.out, HB9.out⟩
            · have HFN := Lib.hid hfo
              have HFO := Lib.hid (foundI_some hfo)
              rw [foundI_some hfo]
              rw [foundI_some hfo] at hol
              clear hfo
              by_cases hk : o.d = x.d
              · have HKO : Hid (KindOk L x) := show ∀ o, _ from fun o' h => by rw [HFN.out] at h; cases h; exact hk
                have gk : (o.d == x.d) = true := beq_iff_eq.2 hk
                have gk2 : (o.d != x.d) = false := by rw [bne, gk]; rfl
                clear hk
                have HXO := Lib.hid (inBox_new w6 o 27)
                have hb7 := (Below.refl w6.heap.size w6).alloc (Nat.le_refl _) (.cells #[.string o.p, .bool o.d, .bool o.e, .string o.c] 27)
                have HB7 := Lib.hid (below_step HB6.out hb7)
                have HX7 := Lib.hid (HX6.out.stays hb7)
                have HU7 := Lib.hid (HU6.out.stays hb7)
                have HI7 := Lib.hid (HI6.out.stays hb7)
                clear hb7 HX6 HU6 HI6 HB6
                obtain ⟨d0, d1, d2, d3⟩ := HX7.out.cells
                obtain ⟨u0, u1, u2, u3⟩ := HU7.out.cells
                rw [HUD.out] at u1
                clear d0 u0 u2 u3
                go_wp2_with fail
                clear d1 d2 d3 u1
                generalize w6.alloc (.cells #[.string o.p, .bool o.d, .bool o.e, .string o.c] 27) = W7 at HXO HB7 HX7 HU7 HI7 ⊢
                generalize w6.heap.size = B7 at HXO ⊢
                obtain ⟨d0, d1, d2, d3⟩ := HX7.out.cells
                obtain ⟨o0, o1, o2, o3⟩ := HXO.out.cells
                clear d0 d1 d2 o0 o1 o2
                have S1 := Lib.hid (fun w h => SI.out (.slice a L.length cap) L w h (by omega))
                by_cases hs1 : 32768 < x.c.size
                · have g1 : decide ((32768 : Int) < (x.c.size : Int)) = true := decide_eq_true (by omega)
                  have HC := Lib.hid hs1
                  clear hs1
                  go_quiet (fail)
                  have HBq := Lib.hid (below_drewN HB7.out nq)
                  have HIq := Lib.hid (HI7.out.stays (below_drewN (Below.refl _ _) nq))
                  have HV := Lib.hid (wrong_4 HPB.out HFM.out HUP.out HKO.out (.inl HC.out))
                  have HR := Lib.hid (HNO.out (by rw [HV.out]; decide))
                  go_wp2
                  go_ret2
                  exact ⟨_, by rw [HV.out]; rfl, by rw [HR.out]; exact HIq.out, HBq.out⟩
                · have g1 : decide ((32768 : Int) < (x.c.size : Int)) = false := decide_eq_false (by omega)
                  have y1 : IntKind.i64.wrap ((sizeT L : Int) - (o.c.size : Int)) = (sizeT L : Int) - (o.c.size : Int) := IntWalk.i64_in _ (by omega)
                  have y2 : IntKind.i64.wrap ((sizeT L : Int) - (o.c.size : Int) + (x.c.size : Int)) = (sizeT L : Int) - (o.c.size : Int) + (x.c.size : Int) := IntWalk.i64_in _ (by omega)
                  by_cases hs2 : 65536 + o.c.size < sizeT L + x.c.size
                  · have g2 : decide ((65536 : Int) < (sizeT L : Int) - (o.c.size : Int) + (x.c.size : Int)) = true := decide_eq_true (by omega)
                    have HC : Hid (65536 + (foundI L x.t).c.size < sizeT L + x.c.size) := show _ < _ by rw [HFO.out]; exact hs2
                    clear hs1 hs2
                    go_quiet (exact Calls.quiet_of_same ((S1.out _ (HI7.out.stays (below_drewN (Below.refl _ _) _))).mono fun _ _ h => ⟨h.1, h.2.symm⟩))
                    have HBq := Lib.hid (below_drewN HB7.out nq)
                    have HIq := Lib.hid (HI7.out.stays (below_drewN (Below.refl _ _) nq))
                    have HV := Lib.hid (wrong_4 HPB.out HFM.out HUP.out HKO.out (.inr HC.out))
                    have HR := Lib.hid (HNO.out (by rw [HV.out]; decide))
                    go_wp2
                    go_ret2
                    exact ⟨_, by rw [HV.out]; rfl, by rw [HR.out]; exact HIq.out, HBq.out⟩
                  · have g2 : decide ((65536 : Int) < (sizeT L : Int) - (o.c.size : Int) + (x.c.size : Int)) = false := decide_eq_false (by omega)
                    have HC : Hid (¬ (32768 < x.c.size ∨ 65536 + (foundI L x.t).c.size < sizeT L + x.c.size)) := show ¬ _ from fun h => by rw [HFO.out] at h; exact h.elim hs1 hs2
                    clear hs1 hs2
                    go_quiet (exact Calls.quiet_of_same ((S1.out _ (HI7.out.stays (below_drewN (Below.refl _ _) _))).mono fun _ _ h => ⟨h.1, h.2.symm⟩))
                    have HBq := Lib.hid (below_drewN HB7.out nq)
                    have HIq := Lib.hid (HI7.out.stays (below_drewN (Below.refl _ _) nq))
                    have HXq := Lib.hid (HX7.out.stays (below_drewN (Below.refl _ _) nq))
                    clear d3 o3 g1 g2 y1 y2 HXO HU7 S1
                    generalize W7.drewN nq = Wq at HBq HIq HXq ⊢
                    clear HX7 HI7 HB7
                    obtain ⟨d0, d1, d2, d3⟩ := HXq.out.cells
                    have HV := Lib.hid (wrong_0 HPB.out HFM.out HUP.out HKO.out HC.out (fun h => by rw [HFN.out] at h; cases h.1))
                    have HR := Lib.hid (HYES.out HV.out)
                    have W1' := Lib.hid (WI.out (.slice a L.length cap) Wq HIq.out)
                    go_wp2_with fail
                    refine W1'.out.mono ?_
                    rintro e w9 ⟨v9, rfl, hv9, hb⟩
                    have HB9 := Lib.hid (below_step HBq.out hb)
                    have HI9 := Lib.hid hv9
                    clear hb hv9
                    go_wp2
                    go_ret2
                    exact ⟨_, by rw [HV.out]; rfl, by rw [HR.out]; exact HI9.out, HB9.out⟩
              · have HKO := Lib.hid hk
                have gk : (o.d == x.d) = false := beq_eq_false_iff_ne.2 hk
                have gk2 : (o.d != x.d) = true := by rw [bne, gk]; rfl
                clear hk
                have hb7 := (Below.refl w6.heap.size w6).alloc (Nat.le_refl _) (.cells #[.string o.p, .bool o.d, .bool o.e, .string o.c] 27)
                have HB7 := Lib.hid (below_step HB6.out hb7)
                have HI7 := Lib.hid (HI6.out.stays hb7)
                have HX7 := Lib.hid (HX6.out.stays hb7)
                have HU7 := Lib.hid (HU6.out.stays hb7)
                clear hb7
                obtain ⟨d0, d1, d2, d3⟩ := HX7.out.cells
                obtain ⟨u0, u1, u2, u3⟩ := HU7.out.cells
                rw [HUD.out] at u1
                clear d0 d2 d3 u0 u2 u3
                have HV := Lib.hid (wrong_10b HPB.out HFM.out HUP.out HFN.out HKO.out)
                have HR := Lib.hid (HNO.out (by rw [HV.out]; decide))
                go_wp2
                go_ret2
                exact ⟨_, by rw [HV.out]; rfl, by rw [HR.out]; exact HI7.out, HB7.out⟩
    · rcases hcc : x.c.toList.isEmpty with _ | _
      · have HFM : Hid (badI x = true) := show _ = _ by unfold badI; rw [c_empty] at hcc; rw [hdd, decide_eq_true (of_decide_eq_false hcc)]; rfl
        have HV := Lib.hid (wrong_2 (L := L) HPB.out HFM.out)
        have HR := Lib.hid (HNO.out (by rw [HV.out]; decide))
        go_wp2
        go_ret2
        exact ⟨_, by rw [HV.out]; rfl, by rw [HR.out]; exact HI2.out, HB2.out⟩
      · rcases hee : x.e with _ | _
        · have HFM : Hid (badI x = false) := show _ = _ by unfold badI; rw [c_empty] at hcc; rw [hdd, hee, decide_eq_false (fun h => h (of_decide_eq_true hcc))]; rfl
          clear d0 d1 d2 d3
          obtain ⟨d0, d1, d2, d3⟩ := HX2.out.cells
          go_wp2_with fail
          clear hdd hcc hee
          refine (D1.out _).mono ?_
          rintro e w3 ⟨rfl, hb⟩
          rw [show x.p.data.toList = x.t from rfl]
          have HB3 := Lib.hid (below_step HB2.out hb)
          have HX3 := Lib.hid (HX2.out.stays hb)
          have HI3 := Lib.hid (HI2.out.stays hb)
          clear hb HX2 HI2 HB2 d0 d1 d2 d3 D1
          have F1 := Lib.hid (FI.out (.slice a L.length cap) L ⟨(dirS x.t).toArray⟩ w3 HI3.out)
          go_wp2_with fail
          refine F1.out.mono ?_
          rintro e w4 ⟨rfl, hb⟩
          have HB4 := Lib.hid (below_step HB3.out hb)
          have HX4 := Lib.hid (HX3.out.stays hb)
          have HI4 := Lib.hid (HI3.out.stays hb)
          clear hb HX3 HI3 HB3 F1
          obtain ⟨u, hu⟩ : ∃ u, u = foundI L (dirS x.t) := ⟨_, rfl⟩
          rw [← hu]
          have HU := Lib.hid hu
          clear hu
          by_cases hd : dirS x.t = []
          · have hd2 : (dirS x.t).isEmpty = true := by rw [hd]; rfl
            have HUP : Hid (UpOk L x) := Or.inl hd
            clear hd
            have HXU := Lib.hid (inBox_new w4 u 27)
            have hb5 := (Below.refl w4.heap.size w4).alloc (Nat.le_refl _) (.cells #[.string u.p, .bool u.d, .bool u.e, .string u.c] 27)
            have HB5 := Lib.hid (below_step HB4.out hb5)
            have HX5 := Lib.hid (HX4.out.stays hb5)
            have HI5 := Lib.hid (HI4.out.stays hb5)
            clear hb5 HX4 HI4 HB4
            obtain ⟨d0, d1, d2, d3⟩ := HX5.out.cells
            go_wp2_with fail
            clear d0 d1 d2 d3
            generalize w4.alloc (.cells #[.string u.p, .bool u.d, .bool u.e, .string u.c] 27) = W5 at HXU HB5 HX5 HI5 ⊢
            generalize w4.heap.size = B5 at HXU ⊢
            have F2 := Lib.hid (FI.out (.slice a L.length cap) L x.p W5 HI5.out)
            refine F2.out.mono ?_
            rintro e w6 ⟨rfl, hb⟩
            rw [show x.p.data.toList = x.t from rfl]
            have HB6 := Lib.hid (below_step HB5.out hb)
            have HX6 := Lib.hid (HX5.out.stays hb)
            have HU6 := Lib.hid (HXU.out.stays hb)
            have HI6 := Lib.hid (HI5.out.stays hb)
            clear hb HX5 HI5 HB5 HXU F2
            rcases hfo : findT L x.t with _ | o
            · have HFN := Lib.hid hfo
              have HFO := Lib.hid (foundI_none hfo)
              rw [foundI_none hfo]
              rw [foundI_none hfo] at hol
              clear hfo
              have HKO : Hid (KindOk L x) := show ∀ o, _ from fun o h => by rw [HFN.out] at h; cases h
              obtain ⟨o, ho⟩ : ∃ o, o = zeroIt := ⟨_, rfl⟩
              rw [← ho] at HFO hol
              rw [← ho]
              clear ho
              have HXO := Lib.hid (inBox_new w6 o 27)
              have hb7 := (Below.refl w6.heap.size w6).alloc (Nat.le_refl _) (.cells #[.string o.p, .bool o.d, .bool o.e, .string o.c] 27)
              have HB7 := Lib.hid (below_step HB6.out hb7)
              have HX7 := Lib.hid (HX6.out.stays hb7)
              have HU7 := Lib.hid (HU6.out.stays hb7)
              have HI7 := Lib.hid (HI6.out.stays hb7)
              clear hb7 HX6 HU6 HI6 HB6
              obtain ⟨d0, d1, d2, d3⟩ := HX7.out.cells
              obtain ⟨u0, u1, u2, u3⟩ := HU7.out.cells
              clear d0 u0 u2 u3
              go_wp2_with fail
              clear d1 d2 d3 u1
              generalize w6.alloc (.cells #[.string o.p, .bool o.d, .bool o.e, .string o.c] 27) = W7 at HXO HB7 HX7 HU7 HI7 ⊢
              generalize w6.heap.size = B7 at HXO ⊢
              obtain ⟨d0, d1, d2, d3⟩ := HX7.out.cells
              obtain ⟨o0, o1, o2, o3⟩ := HXO.out.cells
              clear d0 d1 d2 o0 o1 o2
              have S1 := Lib.hid (fun w h => SI.out (.slice a L.length cap) L w h (by omega))
              by_cases hs1 : 32768 < x.c.size
              · have g1 : decide ((32768 : Int) < (x.c.size : Int)) = true := decide_eq_true (by omega)
                have HC := Lib.hid hs1
                clear hs1
                go_quiet (fail)
                have HBq := Lib.hid (below_drewN HB7.out nq)
                have HIq := Lib.hid (HI7.out.stays (below_drewN (Below.refl _ _) nq))
                have HV := Lib.hid (wrong_4 HPB.out HFM.out HUP.out HKO.out (.inl HC.out))
                have HR := Lib.hid (HNO.out (by rw [HV.out]; decide))
                go_wp2
                go_ret2
                exact ⟨_, by rw [HV.out]; rfl, by rw [HR.out]; exact HIq.out, HBq.out⟩
              · have g1 : decide ((32768 : Int) < (x.c.size : Int)) = false := decide_eq_false (by omega)
                have y1 : IntKind.i64.wrap ((sizeT L : Int) - (o.c.size : Int)) = (sizeT L : Int) - (o.c.size : Int) := IntWalk.i64_in _ (by omega)
                have y2 : IntKind.i64.wrap ((sizeT L : Int) - (o.c.size : Int) + (x.c.size : Int)) = (sizeT L : Int) - (o.c.size : Int) + (x.c.size : Int) := IntWalk.i64_in _ (by omega)
                by_cases hs2 : 65536 + o.c.size < sizeT L + x.c.size
                · have g2 : decide ((65536 : Int) < (sizeT L : Int) - (o.c.size : Int) + (x.c.size : Int)) = true := decide_eq_true (by omega)
                  have HC : Hid (65536 + (foundI L x.t).c.size < sizeT L + x.c.size) := show _ < _ by rw [HFO.out]; exact hs2
                  clear hs1 hs2
                  go_quiet (exact Calls.quiet_of_same ((S1.out _ (HI7.out.stays (below_drewN (Below.refl _ _) _))).mono fun _ _ h => ⟨h.1, h.2.symm⟩))
                  have HBq := Lib.hid (below_drewN HB7.out nq)
                  have HIq := Lib.hid (HI7.out.stays (below_drewN (Below.refl _ _) nq))
                  have HV := Lib.hid (wrong_4 HPB.out HFM.out HUP.out HKO.out (.inr HC.out))
                  have HR := Lib.hid (HNO.out (by rw [HV.out]; decide))
                  go_wp2
                  go_ret2
                  exact ⟨_, by rw [HV.out]; rfl, by rw [HR.out]; exact HIq.out, HBq.out⟩
                · have g2 : decide ((65536 : Int) < (sizeT L : Int) - (o.c.size : Int) + (x.c.size : Int)) = false := decide_eq_false (by omega)
                  have HC : Hid (¬ (32768 < x.c.size ∨ 65536 + (foundI L x.t).c.size < sizeT L + x.c.size)) := show ¬ _ from fun h => by rw [HFO.out] at h; exact h.elim hs1 hs2
                  clear hs1 hs2
                  go_quiet (exact Calls.quiet_of_same ((S1.out _ (HI7.out.stays (below_drewN (Below.refl _ _) _))).mono fun _ _ h => ⟨h.1, h.2.symm⟩))
                  have HBq := Lib.hid (below_drewN HB7.out nq)
                  have HIq := Lib.hid (HI7.out.stays (below_drewN (Below.refl _ _) nq))
                  have HXq := Lib.hid (HX7.out.stays (below_drewN (Below.refl _ _) nq))
                  clear d3 o3 g1 g2 y1 y2 HXO HU7 S1
                  generalize W7.drewN nq = Wq at HBq HIq HXq ⊢
                  clear HX7 HI7 HB7
                  obtain ⟨d0, d1, d2, d3⟩ := HXq.out.cells
                  by_cases h6 : 60 ≤ L.length
                  · have g3 : decide ((60 : Int) ≤ (L.length : Int)) = true := decide_eq_true (by omega)
                    have HM := Lib.hid h6
                    clear h6
                    have HV := Lib.hid (wrong_9 HPB.out HFM.out HUP.out HKO.out HC.out HFN.out HM.out)
                    have HR := Lib.hid (HNO.out (by rw [HV.out]; decide))
                    go_wp2
                    go_ret2
                    exact ⟨_, by rw [HV.out]; rfl, by rw [HR.out]; exact HIq.out, HBq.out⟩
                  · have g3 : decide ((60 : Int) ≤ (L.length : Int)) = false := decide_eq_false (by omega)
                    have HM := Lib.hid h6
                    clear h6
                    have HV := Lib.hid (wrong_0 HPB.out HFM.out HUP.out HKO.out HC.out (fun h => HM.out h.2))
                    have HR := Lib.hid (HYES.out HV.out)
                    have W1' := Lib.hid (WI.out (.slice a L.length cap) Wq HIq.out)
                    go_wp2_with fail
                    refine W1'.out.mono ?_
                    rintro e w9 ⟨v9, rfl, hv9, hb⟩
                    have HB9 := Lib.hid (below_step HBq.out hb)
                    have HI9 := Lib.hid hv9
                    clear hb hv9
                    go_wp2
                    go_ret2
                    exact ⟨_, by rw [HV.out]; rfl, by rw [HR.out]; exact HI9.out, HB9.out⟩
            · have HFN := Lib.hid hfo
              have HFO := Lib.hid (foundI_some hfo)
              rw [foundI_some hfo]
              rw [foundI_some hfo] at hol
              clear hfo
              by_cases hk : o.d = x.d
              · have HKO : Hid (KindOk L x) := show ∀ o, _ from fun o' h => by rw [HFN.out] at h; cases h; exact hk
                have gk : (o.d == x.d) = true := beq_iff_eq.2 hk
                have gk2 : (o.d != x.d) = false := by rw [bne, gk]; rfl
                clear hk
                have HXO := Lib.hid (inBox_new w6 o 27)
                have hb7 := (Below.refl w6.heap.size w6).alloc (Nat.le_refl _) (.cells #[.string o.p, .bool o.d, .bool o.e, .string o.c] 27)
                have HB7 := Lib.hid (below_step HB6.out hb7)
                have HX7 := Lib.hid (HX6.out.stays hb7)
                have HU7 := Lib.hid (HU6.out.stays hb7)
                have HI7 := Lib.hid (HI6.out.stays hb7)
                clear hb7 HX6 HU6 HI6 HB6
                obtain ⟨d0, d1, d2, d3⟩ := HX7.out.cells
                obtain ⟨u0, u1, u2, u3⟩ := HU7.out.cells
                clear d0 u0 u2 u3
                go_wp2_with fail
                clear d1 d2 d3 u1
                generalize w6.alloc (.cells #[.string o.p, .bool o.d, .bool o.e, .string o.c] 27) = W7 at HXO HB7 HX7 HU7 HI7 ⊢
                generalize w6.heap.size = B7 at HXO ⊢
                obtain ⟨d0, d1, d2, d3⟩ := HX7.out.cells
                obtain ⟨o0, o1, o2, o3⟩ := HXO.out.cells
                clear d0 d1 d2 o0 o1 o2
                have S1 := Lib.hid (fun w h => SI.out (.slice a L.length cap) L w h (by omega))
                by_cases hs1 : 32768 < x.c.size
                · have g1 : decide ((32768 : Int) < (x.c.size : Int)) = true := decide_eq_true (by omega)
                  have HC := Lib.hid hs1
                  clear hs1
                  go_quiet (fail)
                  have HBq := Lib.hid (below_drewN HB7.out nq)
                  have HIq := Lib.hid (HI7.out.stays (below_drewN (Below.refl _ _) nq))
                  have HV := Lib.hid (wrong_4 HPB.out HFM.out HUP.out HKO.out (.inl HC.out))
                  have HR := Lib.hid (HNO.out (by rw [HV.out]; decide))
                  go_wp2
                  go_ret2
                  exact ⟨_, by rw [HV.out]; rfl, by rw [HR.out]; exact HIq.out, HBq.out⟩
                · have g1 : decide ((32768 : Int) < (x.c.size : Int)) = false := decide_eq_false (by omega)
                  have y1 : IntKind.i64.wrap ((sizeT L : Int) - (o.c.size : Int)) = (sizeT L : Int) - (o.c.size : Int) := IntWalk.i64_in _ (by omega)
                  have y2 : IntKind.i64.wrap ((sizeT L : Int) - (o.c.size : Int) + (x.c.size : Int)) = (sizeT L : Int) - (o.c.size : Int) + (x.c.size : Int) := IntWalk.i64_in _ (by omega)
                  by_cases hs2 : 65536 + o.c.size < sizeT L + x.c.size
                  · have g2 : decide ((65536 : Int) < (sizeT L : Int) - (o.c.size : Int) + (x.c.size : Int)) = true := decide_eq_true (by omega)
                    have HC : Hid (65536 + (foundI L x.t).c.size < sizeT L + x.c.size) := show _ < _ by rw [HFO.out]; exact hs2
                    clear hs1 hs2
                    go_quiet (exact Calls.quiet_of_same ((S1.out _ (HI7.out.stays (below_drewN (Below.refl _ _) _))).mono fun _ _ h => ⟨h.1, h.2.symm⟩))
                    have HBq := Lib.hid (below_drewN HB7.out nq)
                    have HIq := Lib.hid (HI7.out.stays (below_drewN (Below.refl _ _) nq))
                    have HV := Lib.hid (wrong_4 HPB.out HFM.out HUP.out HKO.out (.inr HC.out))
                    have HR := Lib.hid (HNO.out (by rw [HV.out]; decide))
                    go_wp2
                    go_ret2
                    exact ⟨_, by rw [HV.out]; rfl, by rw [HR.out]; exact HIq.out, HBq.out⟩
                  · have g2 : decide ((65536 : Int) < (sizeT L : Int) - (o.c.size : Int) + (x.c.size : Int)) = false := decide_eq_false (by omega)
                    have HC : Hid (¬ (32768 < x.c.size ∨ 65536 + (foundI L x.t).c.size < sizeT L + x.c.size)) := show ¬ _ from fun h => by rw [HFO.out] at h; exact h.elim hs1 hs2
                    clear hs1 hs2
                    go_quiet (exact Calls.quiet_of_same ((S1.out _ (HI7.out.stays (below_drewN (Below.refl _ _) _))).mono fun _ _ h => ⟨h.1, h.2.symm⟩))
                    have HBq := Lib.hid (below_drewN HB7.out nq)
                    have HIq := Lib.hid (HI7.out.stays (below_drewN (Below.refl _ _) nq))
                    have HXq := Lib.hid (HX7.out.stays (below_drewN (Below.refl _ _) nq))
                    clear d3 o3 g1 g2 y1 y2 HXO HU7 S1
                    generalize W7.drewN nq = Wq at HBq HIq HXq ⊢
                    clear HX7 HI7 HB7
                    obtain ⟨d0, d1, d2, d3⟩ := HXq.out.cells
                    have HV := Lib.hid (wrong_0 HPB.out HFM.out HUP.out HKO.out HC.out (fun h => by rw [HFN.out] at h; cases h.1))
                    have HR := Lib.hid (HYES.out HV.out)
                    have W1' := Lib.hid (WI.out (.slice a L.length cap) Wq HIq.out)
                    go_wp2_with fail
                    refine W1'.out.mono ?_
                    rintro e w9 ⟨v9, rfl, hv9, hb⟩
                    have HB9 := Lib.hid (below_step HBq.out hb)
                    have HI9 := Lib.hid hv9
                    clear hb hv9
                    go_wp2
                    go_ret2
                    exact ⟨_, by rw [HV.out]; rfl, by rw [HR.out]; exact HI9.out, HB9.out⟩
              · have HKO := Lib.hid hk
                have gk : (o.d == x.d) = false := beq_eq_false_iff_ne.2 hk
                have gk2 : (o.d != x.d) = true := by rw [bne, gk]; rfl
                clear hk
                have hb7 := (Below.refl w6.heap.size w6).alloc (Nat.le_refl _) (.cells #[.string o.p, .bool o.d, .bool o.e, .string o.c] 27)
                have HB7 := Lib.hid (below_step HB6.out hb7)
                have HI7 := Lib.hid (HI6.out.stays hb7)
                have HX7 := Lib.hid (HX6.out.stays hb7)
                have HU7 := Lib.hid (HU6.out.stays hb7)
                clear hb7
                obtain ⟨d0, d1, d2, d3⟩ := HX7.out.cells
                obtain ⟨u0, u1, u2, u3⟩ := HU7.out.cells
                clear d0 d2 d3 u0 u2 u3
                have HV := Lib.hid (wrong_10b HPB.out HFM.out HUP.out HFN.out HKO.out)
                have HR := Lib.hid (HNO.out (by rw [HV.out]; decide))
                go_wp2
                go_ret2
                exact ⟨_, by rw [HV.out]; rfl, by rw [HR.out]; exact HI7.out, HB7.out⟩
          · have hd2 : (dirS x.t).isEmpty = false := by simpa using hd
            have HD := Lib.hid hd
            clear hd
            rcases hfs : (findT L (dirS x.t)).isSome with _ | _
            · have HFS := Lib.hid hfs
              clear hfs
              have hb5 := (Below.refl w4.heap.size w4).alloc (Nat.le_refl _) (.cells #[.string u.p, .bool u.d, .bool u.e, .string u.c] 27)
              have HB5 := Lib.hid (below_step HB4.out hb5)
              have HI5 := Lib.hid (HI4.out.stays hb5)
              clear hb5
              have HV := Lib.hid (wrong_5 HPB.out HFM.out HD.out HFS.out)
              have HR := Lib.hid (HNO.out (by rw [HV.out]; decide))
              go_wp2
              go_ret2
              exact ⟨_, by rw [HV.out]; rfl, by rw [HR.out]; exact HI5.out, HB5.out⟩
            · have HFS := Lib.hid hfs
              clear hfs
              rcases hud : u.d with _ | _
              · have HUD : Hid ((foundI L (dirS x.t)).d = false) := show _ = _ by rw [← HU.out]; exact hud
                have HUD2 := Lib.hid hud
                clear hud
                have HXU := Lib.hid (inBox_new w4 u 27)
                have hb5 := (Below.refl w4.heap.size w4).alloc (Nat.le_refl _) (.cells #[.string u.p, .bool u.d, .bool u.e, .string u.c] 27)
                have HB5 := Lib.hid (below_step HB4.out hb5)
                have HX5 := Lib.hid (HX4.out.stays hb5)
                have HI5 := Lib.hid (HI4.out.stays hb5)
                clear hb5 HX4 HI4 HB4
                obtain ⟨d0, d1, d2, d3⟩ := HX5.out.cells
                go_wp2_with fail
                clear d0 d1 d2 d3
                generalize w4.alloc (.cells #[.string u.p, .bool u.d, .bool u.e, .string u.c] 27) = W5 at HXU HB5 HX5 HI5 ⊢
                generalize w4.heap.size = B5 at HXU ⊢
                have F2 := Lib.hid (FI.out (.slice a L.length cap) L x.p W5 HI5.out)
                refine F2.out.mono ?_
                rintro e w6 ⟨rfl, hb⟩
                rw [show x.p.data.toList = x.t from rfl]
                have HB6 := Lib.hid (below_step HB5.out hb)
                have HU6 := Lib.hid (HXU.out.stays hb)
                have HI6 := Lib.hid (HI5.out.stays hb)
                clear hb HX5 HI5 HB5 HXU F2
                obtain ⟨o, ho⟩ : ∃ o, o = foundI L x.t := ⟨_, rfl⟩
                rw [← ho]
                clear ho hol
                have hb7 := (Below.refl w6.heap.size w6).alloc (Nat.le_refl _) (.cells #[.string o.p, .bool o.d, .bool o.e, .string o.c] 27)
                have HB7 := Lib.hid (below_step HB6.out hb7)
                have HI7 := Lib.hid (HI6.out.stays hb7)
                have HU7 := Lib.hid (HU6.out.stays hb7)
                clear hb7
                obtain ⟨u0, u1, u2, u3⟩ := HU7.out.cells
                clear u0 u2 u3
                rw [HUD2.out] at u1
                have HV := Lib.hid (wrong_10a HPB.out HFM.out HD.out HFS.out HUD.out)
                have HR := Lib.hid (HNO.out (by rw [HV.out]; decide))
                go_wp2
                go_ret2
                exact ⟨_, by rw [HV.out]; rfl, by rw [HR.out]; exact HI7.out, HB7.out⟩
              · have HUP : Hid (UpOk L x) := Or.inr ⟨HFS.out, by rw [← HU.out]; exact hud⟩
                have HUD := Lib.hid hud
                clear hud
                have HXU := Lib.hid (inBox_new w4 u 27)
                have hb5 := (Below.refl w4.heap.size w4).alloc (Nat.le_refl _) (.cells #[.string u.p, .bool u.d, .bool u.e, .string u.c] 27)
                have HB5 := Lib.hid (below_step HB4.out hb5)
                have HX5 := Lib.hid (HX4.out.stays hb5)
                have HI5 := Lib.hid (HI4.out.stays hb5)
                clear hb5 HX4 HI4 HB4
                obtain ⟨d0, d1, d2, d3⟩ := HX5.out.cells
                go_wp2_with fail
                clear d0 d1 d2 d3
                generalize w4.alloc (.cells #[.string u.p, .bool u.d, .bool u.e, .string u.c] 27) = W5 at HXU HB5 HX5 HI5 ⊢
                generalize w4.heap.size = B5 at HXU ⊢
                have F2 := Lib.hid (FI.out (.slice a L.length cap) L x.p W5 HI5.out)
                refine F2.out.mono ?_
                rintro e w6 ⟨rfl, hb⟩
                rw [show x.p.data.toList = x.t from rfl]
                have HB6 := Lib.hid (below_step HB5.out hb)
                have HX6 := Lib.hid (HX5.out.stays hb)
                have HU6 := Lib.hid (HXU.out.stays hb)
                have HI6 := Lib.hid (HI5.out.stays hb)
                clear hb HX5 HI5 HB5 HXU F2
                rcases hfo : findT L x.t with _ | o
                · have HFN := Lib.hid hfo
                  have HFO := Lib.hid (foundI_none hfo)
                  rw [foundI_none hfo]
                  rw [foundI_none hfo] at hol
                  clear hfo
                  have HKO : Hid (KindOk L x) := show ∀ o, _ from fun o h => by rw [HFN.out] at h; cases h
                  obtain ⟨o, ho⟩ : ∃ o, o = zeroIt := ⟨_, rfl⟩
                  rw [← ho] at HFO hol
                  rw [← ho]
                  clear ho
                  have HXO := Lib.hid (inBox_new w6 o 27)
                  have hb7 := (Below.refl w6.heap.size w6).alloc (Nat.le_refl _) (.cells #[.string o.p, .bool o.d, .bool o.e, .string o.c] 27)
                  have HB7 := Lib.hid (below_step HB6.out hb7)
                  have HX7 := Lib.hid (HX6.out.stays hb7)
                  have HU7 := Lib.hid (HU6.out.stays hb7)
                  have HI7 := Lib.hid (HI6.out.stays hb7)
                  clear hb7 HX6 HU6 HI6 HB6
                  obtain ⟨d0, d1, d2, d3⟩ := HX7.out.cells
                  obtain ⟨u0, u1, u2, u3⟩ := HU7.out.cells
                  rw [HUD.out] at u1
                  clear d0 u0 u2 u3
                  go_wp2_with fail
                  clear d1 d2 d3 u1
                  generalize w6.alloc (.cells #[.string o.p, .bool o.d, .bool o.e, .string o.c] 27) = W7 at HXO HB7 HX7 HU7 HI7 ⊢
                  generalize w6.heap.size = B7 at HXO ⊢
                  obtain ⟨d0, d1, d2, d3⟩ := HX7.out.cells
                  obtain ⟨o0, o1, o2, o3⟩ := HXO.out.cells
                  clear d0 d1 d2 o0 o1 o2
                  have S1 := Lib.hid (fun w h => SI.out (.slice a L.length cap) L w h (by omega))
                  by_cases hs1 : 32768 < x.c.size
                  · have g1 : decide ((32768 : Int) < (x.c.size : Int)) = true := decide_eq_true (by omega)
                    have HC := Lib.hid hs1
                    clear hs1
                    go_quiet (fail)
                    have HBq := Lib.hid (below_drewN HB7.out nq)
                    have HIq := Lib.hid (HI7.out.stays (below_drewN (Below.refl _ _) nq))
                    have HV := Lib.hid (wrong_4 HPB.out HFM.out HUP.out HKO.out (.inl HC.out))
                    have HR := Lib.hid (HNO.out (by rw [HV.out]; decide))
                    go_wp2
                    go_ret2
                    exact ⟨_, by rw [HV.out]; rfl, by rw [HR.out]; exact HIq.out, HBq.out⟩
                  · have g1 : decide ((32768 : Int) < (x.c.size : Int)) = false := decide_eq_false (by omega)
                    have y1 : IntKind.i64.wrap ((sizeT L : Int) - (o.c.size : Int)) = (sizeT L : Int) - (o.c.size : Int) := IntWalk.i64_in _ (by omega)
                    have y2 : IntKind.i64.wrap ((sizeT L : Int) - (o.c.size : Int) + (x.c.size : Int)) = (sizeT L : Int) - (o.c.size : Int) + (x.c.size : Int) := IntWalk.i64_in _ (by omega)
                    by_cases hs2 : 65536 + o.c.size < sizeT L + x.c.size
                    · have g2 : decide ((65536 : Int) < (sizeT L : Int) - (o.c.size : Int) + (x.c.size : Int)) = true := decide_eq_true (by omega)
                      have HC : Hid (65536 + (foundI L x.t).c.size < sizeT L + x.c.size) := show _ < _ by rw [HFO.out]; exact hs2
                      clear hs1 hs2
                      go_quiet (exact Calls.quiet_of_same ((S1.out _ (HI7.out.stays (below_drewN (Below.refl _ _) _))).mono fun _ _ h => ⟨h.1, h.2.symm⟩))
                      have HBq := Lib.hid (below_drewN HB7.out nq)
                      have HIq := Lib.hid (HI7.out.stays (below_drewN (Below.refl _ _) nq))
                      have HV := Lib.hid (wrong_4 HPB.out HFM.out HUP.out HKO.out (.inr HC.out))
                      have HR := Lib.hid (HNO.out (by rw [HV.out]; decide))
                      go_wp2
                      go_ret2
                      exact ⟨_, by rw [HV.out]; rfl, by rw [HR.out]; exact HIq.out, HBq.out⟩
                    · have g2 : decide ((65536 : Int) < (sizeT L : Int) - (o.c.size : Int) + (x.c.size : Int)) = false := decide_eq_false (by omega)
                      have HC : Hid (¬ (32768 < x.c.size ∨ 65536 + (foundI L x.t).c.size < sizeT L + x.c.size)) := show ¬ _ from fun h => by rw [HFO.out] at h; exact h.elim hs1 hs2
                      clear hs1 hs2
                      go_quiet (exact Calls.quiet_of_same ((S1.out _ (HI7.out.stays (below_drewN (Below.refl _ _) _))).mono fun _ _ h => ⟨h.1, h.2.symm⟩))
                      have HBq := Lib.hid (below_drewN HB7.out nq)
                      have HIq := Lib.hid (HI7.out.stays (below_drewN (Below.refl _ _) nq))
                      have HXq := Lib.hid (HX7.out.stays (below_drewN (Below.refl _ _) nq))
                      clear d3 o3 g1 g2 y1 y2 HXO HU7 S1
                      generalize W7.drewN nq = Wq at HBq HIq HXq ⊢
                      clear HX7 HI7 HB7
                      obtain ⟨d0, d1, d2, d3⟩ := HXq.out.cells
                      by_cases h6 : 60 ≤ L.length
                      · have g3 : decide ((60 : Int) ≤ (L.length : Int)) = true := decide_eq_true (by omega)
                        have HM := Lib.hid h6
                        clear h6
                        have HV := Lib.hid (wrong_9 HPB.out HFM.out HUP.out HKO.out HC.out HFN.out HM.out)
                        have HR := Lib.hid (HNO.out (by rw [HV.out]; decide))
                        go_wp2
                        go_ret2
                        exact ⟨_, by rw [HV.out]; rfl, by rw [HR.out]; exact HIq.out, HBq.out⟩
                      · have g3 : decide ((60 : Int) ≤ (L.length : Int)) = false := decide_eq_false (by omega)
                        have HM := Lib.hid h6
                        clear h6
                        have HV := Lib.hid (wrong_0 HPB.out HFM.out HUP.out HKO.out HC.out (fun h => HM.out h.2))
                        have HR := Lib.hid (HYES.out HV.out)
                        have W1' := Lib.hid (WI.out (.slice a L.length cap) Wq HIq.out)
                        go_wp2_with fail
                        refine W1'.out.mono ?_
                        rintro e w9 ⟨v9, rfl, hv9, hb⟩
                        have HB9 := Lib.hid (below_step HBq.out hb)
                        have HI9 := Lib.hid hv9
                        clear hb hv9
                        go_wp2
                        go_ret2
                        exact ⟨_, by rw [HV.out]; rfl, by rw [HR.out]; exact HI9.out, HB9.out⟩
                · have HFN := Lib.hid hfo
                  have HFO := Lib.hid (foundI_some hfo)
                  rw [foundI_some hfo]
                  rw [foundI_some hfo] at hol
                  clear hfo
                  by_cases hk : o.d = x.d
                  · have HKO : Hid (KindOk L x) := show ∀ o, _ from fun o' h => by rw [HFN.out] at h; cases h; exact hk
                    have gk : (o.d == x.d) = true := beq_iff_eq.2 hk
                    have gk2 : (o.d != x.d) = false := by rw [bne, gk]; rfl
                    clear hk
                    have HXO := Lib.hid (inBox_new w6 o 27)
                    have hb7 := (Below.refl w6.heap.size w6).alloc (Nat.le_refl _) (.cells #[.string o.p, .bool o.d, .bool o.e, .string o.c] 27)
                    have HB7 := Lib.hid (below_step HB6.out hb7)
                    have HX7 := Lib.hid (HX6.out.stays hb7)
                    have HU7 := Lib.hid (HU6.out.stays hb7)
                    have HI7 := Lib.hid (HI6.out.stays hb7)
                    clear hb7 HX6 HU6 HI6 HB6
                    obtain ⟨d0, d1, d2, d3⟩ := HX7.out.cells
                    obtain ⟨u0, u1, u2, u3⟩ := HU7.out.cells
                    rw [HUD.out] at u1
                    clear d0 u0 u2 u3
                    go_wp2_with fail
                    clear d1 d2 d3 u1
                    generalize w6.alloc (.cells #[.string o.p, .bool o.d, .bool o.e, .string o.c] 27) = W7 at HXO HB7 HX7 HU7 HI7 ⊢
                    generalize w6.heap.size = B7 at HXO ⊢
                    obtain ⟨d0, d1, d2, d3⟩ := HX7.out.cells
                    obtain ⟨o0, o1, o2, o3⟩ := HXO.out.cells
                    clear d0 d1 d2 o0 o1 o2
                    have S1 := Lib.hid (fun w h => SI.out (.slice a L.length cap) L w h (by omega))
                    by_cases hs1 : 32768 < x.c.size
                    · have g1 : decide ((32768 : Int) < (x.c.size : Int)) = true := decide_eq_true (by omega)
                      have HC := Lib.hid hs1
                      clear hs1
                      go_quiet (fail)
                      have HBq := Lib.hid (below_drewN HB7.out nq)
                      have HIq := Lib.hid (HI7.out.stays (below_drewN (Below.refl _ _) nq))
                      have HV := Lib.hid (wrong_4 HPB.out HFM.out HUP.out HKO.out (.inl HC.out))
                      have HR := Lib.hid (HNO.out (by rw [HV.out]; decide))
                      go_wp2
                      go_ret2
                      exact ⟨_, by rw [HV.out]; rfl, by rw [HR.out]; exact HIq.out, HBq.out⟩
                    · have g1 : decide ((32768 : Int) < (x.c.size : Int)) = false := decide_eq_false (by omega)
                      have y1 : IntKind.i64.wrap ((sizeT L : Int) - (o.c.size : Int)) = (sizeT L : Int) - (o.c.size : Int) := IntWalk.i64_in _ (by omega)
                      have y2 : IntKind.i64.wrap ((sizeT L : Int) - (o.c.size : Int) + (x.c.size : Int)) = (sizeT L : Int) - (o.c.size : Int) + (x.c.size : Int) := IntWalk.i64_in _ (by omega)
                      by_cases hs2 : 65536 + o.c.size < sizeT L + x.c.size
                      · have g2 : decide ((65536 : Int) < (sizeT L : Int) - (o.c.size : Int) + (x.c.size : Int)) = true := decide_eq_true (by omega)
                        have HC : Hid (65536 + (foundI L x.t).c.size < sizeT L + x.c.size) := show _ < _ by rw [HFO.out]; exact hs2
                        clear hs1 hs2
                        go_quiet (exact Calls.quiet_of_same ((S1.out _ (HI7.out.stays (below_drewN (Below.refl _ _) _))).mono fun _ _ h => ⟨h.1, h.2.symm⟩))
                        have HBq := Lib.hid (below_drewN HB7.out nq)
                        have HIq := Lib.hid (HI7.out.stays (below_drewN (Below.refl _ _) nq))
                        have HV := Lib.hid (wrong_4 HPB.out HFM.out HUP.out HKO.out (.inr HC.out))
                        have HR := Lib.hid (HNO.out (by rw [HV.out]; decide))
                        go_wp2
                        go_ret2
                        exact ⟨_, by rw [HV.out]; rfl, by rw [HR.out]; exact HIq.out, HBq.out⟩
                      · have g2 : decide ((65536 : Int) < (sizeT L : Int) - (o.c.size : Int) + (x.c.size : Int)) = false := decide_eq_false (by omega)
                        have HC : Hid (¬ (32768 < x.c.size ∨ 65536 + (foundI L x.t).c.size < sizeT L + x.c.size)) := show ¬ _ from fun h => by rw [HFO.out] at h; exact h.elim hs1 hs2
                        clear hs1 hs2
                        go_quiet (exact Calls.quiet_of_same ((S1.out _ (HI7.out.stays (below_drewN (Below.refl _ _) _))).mono fun _ _ h => ⟨h.1, h.2.symm⟩))
                        have HBq := Lib.hid (below_drewN HB7.out nq)
                        have HIq := Lib.hid (HI7.out.stays (below_drewN (Below.refl _ _) nq))
                        have HXq := Lib.hid (HX7.out.stays (below_drewN (Below.refl _ _) nq))
                        clear d3 o3 g1 g2 y1 y2 HXO HU7 S1
                        generalize W7.drewN nq = Wq at HBq HIq HXq ⊢
                        clear HX7 HI7 HB7
                        obtain ⟨d0, d1, d2, d3⟩ := HXq.out.cells
                        have HV := Lib.hid (wrong_0 HPB.out HFM.out HUP.out HKO.out HC.out (fun h => by rw [HFN.out] at h; cases h.1))
                        have HR := Lib.hid (HYES.out HV.out)
                        have W1' := Lib.hid (WI.out (.slice a L.length cap) Wq HIq.out)
                        go_wp2_with fail
                        refine W1'.out.mono ?_
                        rintro e w9 ⟨v9, rfl, hv9, hb⟩
                        have HB9 := Lib.hid (below_step HBq.out hb)
                        have HI9 := Lib.hid hv9
                        clear hb hv9
                        go_wp2
                        go_ret2
                        exact ⟨_, by rw [HV.out]; rfl, by rw [HR.out]; exact HI9.out, HB9.out⟩
                  · have HKO := Lib.hid hk
                    have gk : (o.d == x.d) = false := beq_eq_false_iff_ne.2 hk
                    have gk2 : (o.d != x.d) = true := by rw [bne, gk]; rfl
                    clear hk
                    have hb7 := (Below.refl w6.heap.size w6).alloc (Nat.le_refl _) (.cells #[.string o.p, .bool o.d, .bool o.e, .string o.c] 27)
                    have HB7 := Lib.hid (below_step HB6.out hb7)
                    have HI7 := Lib.hid (HI6.out.stays hb7)
                    have HX7 := Lib.hid (HX6.out.stays hb7)
                    have HU7 := Lib.hid (HU6.out.stays hb7)
                    clear hb7
                    obtain ⟨d0, d1, d2, d3⟩ := HX7.out.cells
                    obtain ⟨u0, u1, u2, u3⟩ := HU7.out.cells
                    rw [HUD.out] at u1
                    clear d0 d2 d3 u0 u2 u3
                    have HV := Lib.hid (wrong_10b HPB.out HFM.out HUP.out HFN.out HKO.out)
                    have HR := Lib.hid (HNO.out (by rw [HV.out]; decide))
                    go_wp2
                    go_ret2
                    exact ⟨_, by rw [HV.out]; rfl, by rw [HR.out]; exact HI7.out, HB7.out⟩
        · have HFM : Hid (badI x = true) := show _ = _ by unfold badI; rw [hdd, hee]; simp
          have HV := Lib.hid (wrong_2 (L := L) HPB.out HFM.out)
          have HR := Lib.hid (HNO.out (by rw [HV.out]; decide))
          go_wp2
          go_ret2
          exact ⟨_, by rw [HV.out]; rfl, by rw [HR.out]; exact HI2.out, HB2.out⟩
end Go.Proofs.YtelaamchafocpaaDoor

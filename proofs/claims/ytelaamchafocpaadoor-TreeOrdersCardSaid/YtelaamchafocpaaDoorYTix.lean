/-
  Contracts over this translation: tree's Put, Drop, Fit.
-/
import Derived.Test.YtelaamchafocpaaDoorYTiv
import Derived.Test.YtelaamchafocpaaDoorQ1
set_option linter.unusedVariables false
namespace Go.Proofs.YtelaamchafocpaaDoor
open Go.RowKit Go.Shelf
attribute [local go_sem] Oper.semAt_some

/-- A new keeper. -/
def NewK (L : List It) (w : World) (e : Ending) (w' : World) : Prop := ∃ kb vs, e = .returned (.pointer (some ⟨kb, 0, none⟩)) ∧ Kept w.heap.size kb w' vs L ∧ Below w.heap.size w w'
theorem own_lit {B : Nat} {w : World} {v : Value} {L : List It} (h : OwnI B w v L) : ∃ ad n c, v = .slice ad n c := by
  rcases h.2 with ⟨rfl, _⟩ | ⟨g, cap, cur, rfl, _⟩
  · exact ⟨_, _, _, rfl⟩
  · exact ⟨_, _, _, rfl⟩
set_option maxRecDepth 100000 in
set_option maxHeartbeats 2000000 in
theorem newKeeper_any (v : Value) (L : List It) (w : World) (h : IsItems w v L) (h3 : L.length ≤ 1000000) :
    Calls Tryd.prog 36 #[v] w (NewK L w) := by
  have C := Lib.hid (pClone_any v L w h h3)
  clear h
  go_enter Tryd.func36, Tryd.ntmps36
  go_wp2_with fail
  refine C.out.mono ?_
  rintro e w1 ⟨u, rfl, hown, hb⟩
  obtain ⟨ad, n, c, rfl⟩ := own_lit hown
  have HR : Hid (NewK L w (.returned (.pointer (some ⟨w1.heap.size, 0, none⟩))) (w1.alloc (.cells #[.slice ad n c] 47))) := show NewK _ _ _ _ from
    ⟨_, _, rfl, ⟨heap_alloc_new w1 _, hown.stays ((Below.refl _ _).alloc (Nat.le_refl _) _), hb.size⟩, hb.alloc hb.size _⟩
  clear hown hb C
  go_wp2
  go_ret
  exact HR.out
/-- What a call hands back: a slice of items, and a number. -/
def RetN (L : List It) (n : Int) (w : World) (e : Ending) (w' : World) : Prop := ∃ v, e = .returned (.tuple #[v, .int .i64 n]) ∧ OwnI w.heap.size w' v L ∧ Below w.heap.size w w'
set_option maxRecDepth 100000 in
set_option maxHeartbeats 2000000 in
theorem pPut_any (v : Value) (L : List It) (x : It) (w : World) (h : IsItems w v L) (hr : Rise L) (hf : fewB L = true) (hx : x.p.size ≤ 400) (hxc : x.c.size ≤ 40000) :
    Calls Tryd.prog 20 #[v, itV x] w (RetN (putT L x) (wrongT L x) w) := by
  have h70 := few_len hf
  have hb0 := (Below.refl w.heap.size w).alloc (Nat.le_refl _) (.cells #[.string x.p, .bool x.d, .bool x.e, .string x.c] 27)
  have NK := Lib.hid (newKeeper_any v L _ (h.stays hb0) (by omega))
  have HX := Lib.hid (inBox_new w x 27)
  have KP := Lib.hid (fun B kb vs w hk hB => kPut_any B kb vs L x w hk hB hr hf hx hxc)
  have hs0 : w.heap.size ≤ (w.alloc (.cells #[.string x.p, .bool x.d, .bool x.e, .string x.c] 27)).heap.size := by simp
  have HB0 := Lib.hid hb0
  obtain ⟨n, hn⟩ : ∃ n, n = wrongT L x := ⟨_, rfl⟩
  obtain ⟨M, hM⟩ : ∃ M, M = putT L x := ⟨_, rfl⟩
  rw [← hn, ← hM] at KP
  rw [← hn, ← hM]
  clear hn hM hr hf h hb0
  go_enter Tryd.func20, Tryd.ntmps20
  go_wp2_with fail
  generalize w.alloc (.cells #[.string x.p, .bool x.d, .bool x.e, .string x.c] 27) = W1 at NK HX hs0 HB0 ⊢
  refine NK.out.mono ?_
  rintro e w2 ⟨kb, vs, rfl, hk, hb⟩
  have HX2 := Lib.hid (HX.out.stays hb)
  have HK := Lib.hid hk
  have hB : W1.heap.size ≤ w2.heap.size := hb.size
  have HB2 := Lib.hid (below_step HB0.out (hb.mono (Nat.le_refl _)))
  obtain ⟨d0, d1, d2, d3⟩ := HX2.out.cells
  clear hk hb NK HX HB0
  have K1 := Lib.hid (KP.out W1.heap.size kb vs w2 HK.out hB)
  clear KP
  go_wp2_with fail
  refine K1.out.mono ?_
  rintro e w3 ⟨rfl, u, hk3, hb3⟩
  have HR : Hid (OwnI w.heap.size w3 u M ∧ Below w.heap.size w w3) := by
    refine ⟨?_, HB2.out.trans (hb3.mono hs0)⟩
    rcases hk3.own with ⟨h1, h2 | ⟨g, cap, cur, h3, h4, h5⟩⟩
    · exact ⟨h1, .inl h2⟩
    · exact ⟨h1, .inr ⟨g, cap, cur, h3, Nat.le_trans hs0 h4, h5⟩⟩
  have c3 := hk3.cell
  clear hk3 hb3 d0 d1 d2 d3 HX2 HK K1 HB2 hB hs0
  go_wp2
  go_ret2
  exact ⟨_, rfl, HR.out.1, HR.out.2⟩
set_option maxRecDepth 100000 in
set_option maxHeartbeats 2000000 in
theorem pDrop_any (v : Value) (L : List It) (s : ByteArray) (w : World) (h : IsItems w v L) (hr : Rise L) (hf : fewB L = true) (hs : s.size ≤ 400) :
    Calls Tryd.prog 22 #[v, .string s] w (RetN (goneT L s.data.toList) (if (findT L s.data.toList).isSome then 0 else 5) w) := by
  have h70 := few_len hf
  have NK := Lib.hid (newKeeper_any v L w h (by omega))
  have KP := Lib.hid (fun B kb vs w hk hB => kDrop_any B kb vs L s w hk hB hr hf hs)
  obtain ⟨n, hn⟩ : ∃ n : Int, n = if (findT L s.data.toList).isSome then 0 else 5 := ⟨_, rfl⟩
  obtain ⟨M, hM⟩ : ∃ M, M = goneT L s.data.toList := ⟨_, rfl⟩
  rw [← hn, ← hM] at KP
  rw [← hn, ← hM]
  clear hn hM hr hf h
  go_enter Tryd.func22, Tryd.ntmps22
  go_wp2_with fail
  refine NK.out.mono ?_
  rintro e w2 ⟨kb, vs, rfl, hk, hb⟩
  have HK := Lib.hid hk
  have hB : w.heap.size ≤ w2.heap.size := hb.size
  have HB2 := Lib.hid hb
  have K1 := Lib.hid (KP.out w.heap.size kb vs w2 HK.out hB)
  clear hk hb NK KP
  go_wp2_with fail
  refine K1.out.mono ?_
  rintro e w3 ⟨rfl, u, hk3, hb3⟩
  have HR : Hid (OwnI w.heap.size w3 u M ∧ Below w.heap.size w w3) := ⟨hk3.own, HB2.out.trans hb3⟩
  have c3 := hk3.cell
  clear hk3 hb3 HK K1 HB2 hB
  go_wp2
  go_ret2
  exact ⟨_, rfl, HR.out.1, HR.out.2⟩
set_option maxRecDepth 100000 in
set_option maxHeartbeats 4000000 in
theorem pFit_any (v : Value) (L : List It) (w : World) (h : IsItems w v L) (hf : fewB L = true) :
    Calls Tryd.prog 9 #[v] w fun e w' => e = .returned (.bool (fitT L)) ∧ Below w.heap.size w w' := by
  have HI := Lib.hid h
  have HFEW := Lib.hid (few_mem hf)
  have h70 := few_len hf
  have KP := Lib.hid kPut_any
  have BH := Lib.hid pBehind_any
  obtain ⟨hm, a, cap, rfl, _, hc⟩ := h
  have hmm : L.length ≤ 9223372036854775807 := by omega
  clear hc hf hm
  have hb0 := (Below.refl w.heap.size w).alloc (Nat.le_refl _) (.cells #[.slice none 0 0] 47)
  have HK0 : Hid (Kept w.heap.size w.heap.size (w.alloc (.cells #[.slice none 0 0] 47)) (.slice none 0 0) []) := ⟨heap_alloc_new w _, ownI_nil _ _, Nat.le_refl _⟩
  go_enter Tryd.func9, Tryd.ntmps9
  go_wp2
  go_loopw [8] (fun i wr => ∃ (k : Nat) (u : Value), k ≤ L.length ∧ i = .int .i64 k ∧ Kept w.heap.size w.heap.size wr u (L.take k) ∧ TFit (L.take k) ∧ Below w.heap.size w wr) (fun i _ => L.length - (intOf i).toNat)
  case atStart => exact ⟨0, _, Nat.zero_le _, rfl, HK0.out, tfit_nil, hb0⟩
  case round =>
    clear HK0 hb0
    obtain ⟨k, u, hk, rfl, hkp, hfit, hB⟩ := hrel
    have HK := Lib.hid hkp; have HF := Lib.hid hfit
    have hsz := hB.size
    by_cases hlt : k < L.length
    · obtain ⟨_, _, _, e, _, hc⟩ := HI.out.stays hB
      cases e
      obtain ⟨b, off, rfl, hbl, g⟩ := hc (by omega)
      obtain ⟨c0, c1, c2, c3⟩ := g k hlt
      clear g hc
      have hbk : decide ((k : Int) < (L.length : Int)) = true := by simpa using (show (k : Int) < L.length by omega)
      have hxs := HFEW.out _ (List.getElem_mem hlt)
      have HTK := Lib.hid (List.take_succ_eq_append_getElem hlt)
      have hMf : fewB (L.take k) = true := few_mk (by rw [List.length_take]; omega) (fun y hy => HFEW.out y (List.mem_of_mem_take hy))
      have HNEXT := Lib.hid (fun h => fit_next (L := L) h hlt)
      have hrM := hfit.rise
      obtain ⟨x, hx⟩ : ∃ x, x = L[k] := ⟨_, rfl⟩
      rw [← hx] at c0 c1 c2 c3 hxs HTK HNEXT
      obtain ⟨M, hM⟩ : ∃ M, M = L.take k := ⟨_, rfl⟩
      have HML : Hid (M.length = k) := show _ = _ by rw [hM, List.length_take]; omega
      rw [← hM] at hMf HTK HNEXT hrM HK HF
      have HBEH : Hid (cntT M x.t = M.length ↔ ∀ y ∈ M, orderS y.t x.t = -1) := show _ ↔ _ from ⟨fun e y hy => by
          obtain ⟨i, hi, rfl⟩ := List.getElem_of_mem hy
          exact (cnt_at hrM x.t hi).2 (by omega), fun hall => by
          unfold cntT; rw [List.countP_eq_length]; intro y hy; simpa using hall y hy⟩
      clear hx hM hkp hfit
      have hb1 := (Below.refl wr.heap.size wr).alloc (Nat.le_refl _) (.cells #[.string x.p, .bool x.d, .bool x.e, .string x.c] 27)
      have HX1 := Lib.hid (inBox_new wr x 27)
      have HK1 := Lib.hid (HK.out.stays hb1)
      have HB1 : Hid (Below w.heap.size w (wr.alloc (.cells #[.string x.p, .bool x.d, .bool x.e, .string x.c] 27))) := hB.alloc hsz _
      have hs1 : w.heap.size ≤ (wr.alloc (.cells #[.string x.p, .bool x.d, .bool x.e, .string x.c] 27)).heap.size := Nat.le_trans hsz hb1.size
      have ck := HK1.out.cell
      clear hb1
      go_wp2_with fail
      clear ck
      generalize wr.alloc (.cells #[.string x.p, .bool x.d, .bool x.e, .string x.c] 27) = W1 at HX1 HK1 HB1 hs1 ⊢
      generalize wr.heap.size = B1 at HX1 ⊢
      clear HK hB c0 c1 c2 c3
      refine (BH.out u M x.p W1 HK1.out.own.items hrM hMf hxs.1).mono ?_
      rintro e w2 ⟨rfl, hb⟩
      rw [show x.p.data.toList = x.t from rfl]
      have HX2 := Lib.hid (HX1.out.stays hb)
      have HK2 := Lib.hid (HK1.out.stays hb)
      have HB2 := Lib.hid (HB1.out.trans (hb.mono hs1))
      have hs2 : w.heap.size ≤ w2.heap.size := Nat.le_trans hs1 hb.size
      obtain ⟨d0, d1, d2, d3⟩ := HX2.out.cells
      clear hb HX1 HK1 HB1 hs1 BH
      by_cases hbe : cntT M x.t = M.length
      · have hall := HBEH.out.1 hbe
        rw [decide_eq_true hbe]
        have K1 := Lib.hid (KP.out w.heap.size w.heap.size u M x w2 HK2.out hs2 hrM hMf hxs.1 hxs.2)
        have HP : Hid (wrongT M x = 0 → putT M x = M ++ [x]) := show _ → _ from fun h => by rw [put_yes h, withT_all hall]
        have HT : Hid (wrongT M x = 0 → TFit (M ++ [x])) := show _ → _ from fun h => by have := fit_put HF.out h; rwa [withT_all hall] at this
        have HBAD : Hid (wrongT M x ≠ 0 → fitT L = false) := show _ → _ from fun h => fitT_no (fun hl => h (HNEXT.out hl).2)
        obtain ⟨n, hn⟩ : ∃ n, n = wrongT M x := ⟨_, rfl⟩
        rw [← hn] at K1 HP HT HBAD
        clear hn hbe hall HBEH KP HNEXT
        go_wp2_with fail
        refine K1.out.mono ?_
        rintro e w3 ⟨rfl, u3, hk3, hb3⟩
        have HK3 := Lib.hid hk3
        have HB3 := Lib.hid (HB2.out.trans hb3)
        clear hk3 hb3 K1 HK2 HB2 HX2 d0 d1 d2 d3
        by_cases h0 : n = 0
        · have g0 : ((n : Int) == 0) = true := beq_iff_eq.2 (by omega)
          have g1 : ((n : Int) != 0) = false := by rw [bne, g0]; rfl
          have HP2 := Lib.hid (HP.out h0)
          have HT2 := Lib.hid (HT.out h0)
          clear h0 HP HT HBAD
          go_wp2_with fail
          go_roundw
          case rel => exact ⟨k + 1, u3, by omega, by go_num, by rw [HTK.out, ← HP2.out]; exact HK3.out, by rw [HTK.out]; exact HT2.out, HB3.out⟩
          case measure => simp [intOf]; omega
        · have g0 : ((n : Int) == 0) = false := beq_eq_false_iff_ne.2 (by omega)
          have g1 : ((n : Int) != 0) = true := by rw [bne, g0]; rfl
          have HE := Lib.hid (HBAD.out h0)
          clear h0 HP HT HBAD
          go_wp2
          go_ret
          exact ⟨by rw [HE.out]; rfl, HB3.out⟩
      · rw [decide_eq_false hbe]
        have HE : Hid (fitT L = false) := fitT_no (fun hl => hbe (HBEH.out.2 (HNEXT.out hl).1))
        clear hbe HBEH HNEXT
        go_wp2
        go_ret
        exact ⟨by rw [HE.out]; rfl, HB2.out⟩
    · have HE : Hid (fitT L = true) := fitT_yes (by have := HF.out; rwa [List.take_of_length_le (by omega)] at this)
      go_wp2
      go_ret
      exact ⟨by rw [HE.out]; rfl, hB⟩
end Go.Proofs.YtelaamchafocpaaDoor

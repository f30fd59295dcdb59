/-
  Texts put together: contracts and laws that this seat's proofs share.
-/
import Derived.Test.YtalknbadakfppaaGreatQa0
import Derived.Test.YtalknbadakfppaaGreatQa1
import Derived.Test.YtalknbadakfppaaGreatYaDme
import Derived.Test.YtalknbadakfppaaGreatYaDlc
import Derived.OwnWalk
import Derived.RegionTactic
import Derived.BigRegion
import Derived.Test.YtalknbadakfppaaGreatQa2
import Derived.Deep.RegionLaw
import Derived.Maps.AppendAt
set_option linter.unusedVariables false
namespace Go.Proofs.YtalknbadakfppaaGreat
open Go.RowKit
attribute [local go_sem] Oper.semAt_some
theorem strsOf_both (L : List Txt) : strsOf_Frs L = strsOf L := rfl
theorem logB_len {d : Dsk} (hf : FitD nameB d) : (logB d).1.length ≤ 262144 := by
  unfold logB readD
  cases hg : getF d.fs nLOG.data.toList with
  | none => exact Nat.zero_le _
  | some f => exact (getF_fit hf hg).1.seen
def RetLog (d : Dsk) (w : World) (e : Ending) (w' : World) : Prop :=
  ∃ (a : Option Addr) (z c : Nat), e = .returned (.tuple #[.string (strT (logB d).1), .slice a z c, .int .i64 (scanEnd (logB d).1 : Nat)]) ∧ IsStrs w' (.slice a z c) (strsOf (textsOf (logB d).1)) ∧ Below w.heap.size w w'
set_option maxRecDepth 100000 in
set_option maxHeartbeats 8000000 in
theorem rLog_any (d : Dsk) (v : Value) (w0 : World) (h : IsDfs w0 v d.fs) (hf : FitD nameB d) :
    Calls Tryz.prog 35 #[dskV v d] w0 (RetLog d w0) := by
  obtain ⟨V, hV⟩ : ∃ V, V = w0.alloc (.cells #[v, .bool d.off, .int .i64 d.fuse] 28) := ⟨_, rfl⟩
  have hbV : Below w0.heap.size w0 V := by rw [hV]; exact (Below.refl _ _).alloc (Nat.le_refl _) _
  have C1 := rReadD_any d v nLOG V (h.stays hbV) fun f hm => ⟨(hf.files f hm).bytes, (hf.files f hm).ops⟩
  have HLN := Lib.hid (logB_len hf)
  obtain ⟨_, a, cap, hu, _, _⟩ := id h
  obtain ⟨z, hz⟩ : ∃ z, z = d.fs.length := ⟨_, rfl⟩
  rw [← hz] at hu
  subst hu
  unfold RetLog
  rw [show readD d nLOG.data.toList = logB d from rfl] at C1
  obtain ⟨⟨B, is⟩, hB⟩ : ∃ r, r = logB d := ⟨_, rfl⟩
  rw [← hB] at C1 HLN ⊢
  dsimp only at C1 HLN ⊢
  have CS := refScan_any (strT B) (by rw [strT_size]; have := HLN.out; omega)
  unfold RetScan at CS
  simp only [strsOf_both] at CS
  rw [strT_txt] at CS
  obtain ⟨S, hS⟩ : ∃ S, S = strT B := ⟨_, rfl⟩
  obtain ⟨q, hq⟩ : ∃ q, q = scanEnd B := ⟨_, rfl⟩
  rw [← hS] at C1; rw [← hS, ← hq] at CS; rw [← hS, ← hq]
  unfold dskV nLOG at C1
  unfold dskV
  have HC1 := Lib.hid C1; have HCS := Lib.hid CS; have HV := Lib.hid hV; have HB0 := Lib.hid hbV
  clear h hf hz hV hbV hB hS hq C1 CS
  go_enter Tryz.func35, Tryz.ntmps35
  go_wp2_with fail
  rw [← HV.out]
  refine HC1.out.mono ?_
  rintro e w1 ⟨rfl, hb1⟩
  have HB1 := Lib.hid (below_step HB0.out hb1)
  clear hb1
  go_wp2_with fail
  refine (HCS.out w1).mono ?_
  rintro e w2 ⟨v2, rfl, hs2, hb2⟩
  obtain ⟨_, a2, c2, hv2, _, _⟩ := id hs2
  obtain ⟨z2, hz2⟩ : ∃ z, z = (strsOf (textsOf B)).length := ⟨_, rfl⟩
  rw [← hz2] at hv2
  subst hv2
  have HB2 := Lib.hid (below_step HB1.out hb2); have HS2 := Lib.hid hs2
  clear hb2 hs2 hz2
  go_wp2_with fail
  exact bodyPost_ret (v := .tuple #[.string S, .slice a2 z2 c2, .int .i64 (q : Nat)]) (by simp [results, Tryz.results35, go_sem]) rfl ⟨a2, z2, c2, rfl, HS2.out, HB2.out⟩
def framesT (L : List Txt) : Txt × Bool := if FitR L then (wraps L, true) else ([], false)
theorem framesT_yes {L : List Txt} (h : FitR L) : framesT L = (wraps L, true) := if_pos h
theorem framesT_no {L : List Txt} (h : ¬ FitR L) : framesT L = ([], false) := if_neg h
theorem wraps_take (L : List Txt) (k : Nat) : (wraps (L.take k)).length ≤ (wraps L).length := by
  have h := wraps_app (L.take k) (L.drop k)
  rw [List.take_append_drop] at h
  rw [h, List.length_append]; omega
theorem fwrap_long {t : Txt} (h : 65536 < t.length) : fwrap t = [] := if_pos h
set_option maxRecDepth 100000 in
set_option maxHeartbeats 8000000 in
theorem rFrames_any (v : Value) (L : List ByteArray) (w0 : World) (h : IsStrs w0 v L) (hm : ∀ x ∈ L, x.size ≤ maxLen) :
    Calls Tryz.prog 36 #[v] w0 fun e w' => e = .returned (.tuple #[.string (strT (framesT (txts L)).1), .bool (framesT (txts L)).2]) ∧ Below w0.heap.size w0 w' := by
  have HI := Lib.hid h; have HM := Lib.hid hm
  obtain ⟨hml, a, cap, hu, _, _⟩ := id h
  obtain ⟨z, hz⟩ : ∃ z, z = L.length := ⟨_, rfl⟩
  rw [← hz] at hu
  subst hu
  have HZ := Lib.hid hz
  have hmz : z ≤ 9223372036854775807 := by unfold maxLen at hml; omega
  clear h hm hml hz
  go_enter Tryz.func36, Tryz.ntmps36
  go_wp2_with fail
  go_loopw [4, 5] (fun s i wr => ∃ (k : Nat) (x : ByteArray), k ≤ z ∧ i = .int .i64 k ∧ s = .string x ∧ x = strT (wraps ((txts L).take k)) ∧ FitR ((txts L).take k) ∧ Below w0.heap.size w0 wr) (fun _ i _ => z - (intOf i).toNat)
  case atStart => exact ⟨0, ⟨#[]⟩, Nat.zero_le _, rfl, rfl, rfl, ⟨fun t h => (by cases h), Nat.zero_le _⟩, Below.refl _ _⟩
  case round =>
    obtain ⟨k, x, hk, rfl, rfl, hx, hfr, hB⟩ := hrel
    have HB := Lib.hid hB; have HX := Lib.hid hx; have HFR := Lib.hid hfr
    by_cases hlt : k < z
    · have hko : k < L.length := by have := HZ.out; omega
      obtain ⟨_, _, _, hev, _, hc⟩ := HI.out.stays hB
      rw [← HZ.out] at hev
      cases hev
      obtain ⟨b1, o1, rfl, hbl, g1⟩ := hc (by omega)
      have q0 := g1 k hko
      have HTK : Hid ((txts L).take (k + 1) = (txts L).take k ++ [L[k].data.toList]) := Lib.hid (by rw [List.take_succ_eq_append_getElem (by rw [txts_len]; exact hko), txts_get hko])
      have HME : Hid (L[k].data.toList ∈ txts L) := Lib.hid (List.mem_map.2 ⟨L[k], List.getElem_mem hko, rfl⟩)
      have hym := HM.out _ (List.getElem_mem hko)
      obtain ⟨y, hy⟩ : ∃ y, y = L[k]'hko := ⟨_, rfl⟩
      rw [← hy] at q0 HTK HME hym
      have hbk : decide ((k : Int) < (z : Int)) = true := by simpa using (show (k : Int) < z by omega)
      have C := refWrap_any y hym wr
      obtain ⟨W, hW⟩ : ∃ W, W = strT (fwrap y.data.toList) := ⟨_, rfl⟩
      rw [show (⟨(fwrap y.data.toList).toArray⟩ : ByteArray) = W from hW.symm] at C
      have HC := Lib.hid C; have HW := Lib.hid hW
      have HWS : Hid (W.size = (fwrap y.data.toList).length) := Lib.hid (by rw [hW, strT_size])
      have HXS : Hid (x.size = (wraps ((txts L).take k)).length) := Lib.hid (by rw [hx, strT_size])
      have hxs : x.size ≤ 65536 := by rw [HXS.out]; exact hfr.2
      have HYS := Lib.hid (dsize y)
      have hbad : ((fwrap y.data.toList) = [] ∨ 65536 < (wraps ((txts L).take k)).length + (fwrap y.data.toList).length) → Hid (framesT (txts L) = ([], false)) := fun hh => Lib.hid (framesT_no fun c => by
        rcases hh with hh | hh
        · exact fwrap_ne (c.1 _ HME.out) hh
        · have h1 := wraps_take (txts L) (k + 1)
          rw [HTK.out, wraps_app, List.length_append] at h1
          have h2 : (wraps [y.data.toList]).length = (fwrap y.data.toList).length := by unfold wraps; simp
          have := c.2
          omega)
      clear g1 hc hy C hW hB hx hfr hko hym
      by_cases he : fwrap y.data.toList = []
      · have HN := hbad (.inl he)
        have hw0 := isE_yes (s := W) (by rw [HWS.out, he]; rfl)
        clear hbad he
        go_wp2_with fail
        refine HC.out.mono ?_
        rintro e w1 ⟨rfl, hb1⟩
        have HB1 := Lib.hid (below_step HB.out hb1)
        clear hb1
        go_wp2_with fail
        exact bodyPost_ret (v := .tuple #[.string ⟨#[]⟩, .bool false]) (by simp [results, Tryz.results36, go_sem]) rfl ⟨by rw [HN.out]; rfl, HB1.out⟩
      · have hw0 := isE_no (s := W) (by rw [HWS.out]; exact fun e => he (List.length_eq_zero_iff.1 e))
        have hsub : IntKind.i64.wrap (65536 - (x.size : Int)) = 65536 - (x.size : Int) := IntWalk.i64_in _ (by omega)
        by_cases hg : 65536 - (x.size : Int) < (W.size : Int)
        · have HN := hbad (.inr (by have := HWS.out; have := HXS.out; omega))
          have d1 : decide (65536 - (x.size : Int) < (W.size : Int)) = true := decide_eq_true hg
          clear hbad he hg
          go_wp2_with fail
          refine HC.out.mono ?_
          rintro e w1 ⟨rfl, hb1⟩
          have HB1 := Lib.hid (below_step HB.out hb1)
          clear hb1
          go_wp2_with fail
          exact bodyPost_ret (v := .tuple #[.string ⟨#[]⟩, .bool false]) (by simp [results, Tryz.results36, go_sem]) rfl ⟨by rw [HN.out]; rfl, HB1.out⟩
        · have d1 : decide (65536 - (x.size : Int) < (W.size : Int)) = false := decide_eq_false hg
          have HFN : Hid (FitR ((txts L).take (k + 1))) := Lib.hid (by
            rw [HTK.out]
            refine ⟨fun t ht => ?_, ?_⟩
            · rcases List.mem_append.1 ht with ht | ht
              · exact HFR.out.1 t ht
              · rw [List.mem_singleton.1 ht]
                exact Classical.byContradiction fun c => he (fwrap_long (by omega))
            · rw [wraps_app, List.length_append]
              have h2 : (wraps [y.data.toList]).length = (fwrap y.data.toList).length := by unfold wraps; simp
              have := HWS.out; have := HXS.out; omega)
          have HXN : Hid (x ++ W = strT (wraps ((txts L).take (k + 1)))) := Lib.hid (by
            refine str_txt.2 ?_
            rw [app_txt, strT_txt, HTK.out, wraps_app, HX.out, HW.out, strT_txt, strT_txt]
            have h2 : wraps [y.data.toList] = fwrap y.data.toList := by unfold wraps; simp
            rw [h2])
          have hsum : ¬ 9223372036854775807 < x.size + W.size := by omega
          clear hbad he hg
          go_wp2_with fail
          refine HC.out.mono ?_
          rintro e w1 ⟨rfl, hb1⟩
          have HB1 := Lib.hid (below_step HB.out hb1)
          clear hb1
          go_wp2_with fail
          go_roundw
          case rel => exact ⟨k + 1, x ++ W, by omega, by go_num, rfl, HXN.out, HFN.out, HB1.out⟩
          case measure => simp [intOf]; omega
    · obtain rfl : k = z := by omega
      have hbk : decide ((k : Int) < (k : Int)) = false := by simp
      have HY : Hid (framesT (txts L) = (wraps (txts L), true)) := Lib.hid (framesT_yes (by
        have h9 := HFR.out
        rwa [List.take_of_length_le (by rw [txts_len]; have := HZ.out; omega)] at h9))
      have HXF : Hid (x = strT (wraps (txts L))) := Lib.hid (by rw [hx, List.take_of_length_le (by rw [txts_len]; have := HZ.out; omega)])
      clear hx hfr
      go_wp2_with fail
      exact bodyPost_ret (v := .tuple #[.string x, .bool true]) (by simp [results, Tryz.results36, go_sem]) rfl ⟨by rw [HY.out, HXF.out], hB⟩
theorem put_far_Wlc {w : World} {b : Nat} {x y z : Value} {p : Addr} (h : p.block ≠ b) : (putB w b x y z).cell? p = w.cell? p := by
  unfold putB
  rw [World.cell?_setCell_other _ _ _ _ (fun e => h (by rw [← e])), World.cell?_setCell_other _ _ _ _ (fun e => h (by rw [← e])), World.cell?_setCell_other _ _ _ _ (fun e => h (by rw [← e]))]
theorem put_size_Wlc {w : World} {b : Nat} {x y z : Value} : (putB w b x y z).heap.size = w.heap.size := by unfold putB; simp [World.setCell]
theorem no_string_Wlc {w : World} {b i : Nat} {a : Option Addr} {n c : Nat} {o : Bool} {f : Int} {T : TypeId} {s : ByteArray} (hR : Row w b #[.slice a n c, .bool o, .int .i64 f] T) (h : w.cell? ⟨b, i, none⟩ = some (.string s)) : False := by
  have h1 := hR.cell i
  rw [h] at h1
  match i, h1 with
  | 0, h1 => simp at h1
  | 1, h1 => simp at h1
  | 2, h1 => simp at h1
  | i + 3, h1 => simp at h1
theorem ops_put_Wlc {w : World} {b : Nat} {a : Option Addr} {n c : Nat} {o : Bool} {f : Int} {T : TypeId} {x y z v : Value} {L : List Dop} (hR : Row w b #[.slice a n c, .bool o, .int .i64 f] T) (h : IsOps w v L) : IsOps (putB w b x y z) v L := by
  obtain ⟨h0, a, cap, h1, h2, h3⟩ := h
  refine ⟨h0, a, cap, h1, h2, fun hL => ?_⟩
  obtain ⟨b', off, e, hlt, hc⟩ := h3 hL
  refine ⟨b', off, e, by rw [put_size_Wlc]; exact hlt, fun i hi => ?_⟩
  obtain ⟨c0, c1⟩ := hc i hi
  have hne : b' ≠ b := fun e => no_string_Wlc hR (by rw [← e]; exact c1)
  exact ⟨(put_far_Wlc (p := ⟨b', _, none⟩) hne).trans c0, (put_far_Wlc (p := ⟨b', _, none⟩) hne).trans c1⟩
theorem dfs_put_Wlc {w : World} {b : Nat} {a : Option Addr} {n c : Nat} {o : Bool} {f : Int} {T : TypeId} {x y z v : Value} {L : List Dfl} (hR : Row w b #[.slice a n c, .bool o, .int .i64 f] T) (h : IsDfs w v L) : IsDfs (putB w b x y z) v L := by
  obtain ⟨h0, a, cap, h1, h2, h3⟩ := h
  refine ⟨h0, a, cap, h1, h2, fun hL => ?_⟩
  obtain ⟨b', off, e, hlt, hc⟩ := h3 hL
  refine ⟨b', off, e, by rw [put_size_Wlc]; exact hlt, fun i hi => ?_⟩
  obtain ⟨u, c0, c1, c2, c3⟩ := hc i hi
  have hne : b' ≠ b := fun e => no_string_Wlc hR (by rw [← e]; exact c0)
  exact ⟨u, (put_far_Wlc (p := ⟨b', _, none⟩) hne).trans c0, (put_far_Wlc (p := ⟨b', _, none⟩) hne).trans c1, (put_far_Wlc (p := ⟨b', _, none⟩) hne).trans c2, ops_put_Wlc hR c3⟩
theorem RetD.open_Wlc {d : Dsk} {n : Int} {w : World} {e : Ending} {w' : World} (h : RetD (d, n) w e w') : ∃ (a : Option Addr) (z c : Nat), e = .returned (.tuple #[.agg #[.slice a z c, .bool d.off, .int .i64 d.fuse], .int .i64 n]) ∧ IsDfs w' (.slice a z c) d.fs ∧ Below w.heap.size w w' := by
  obtain ⟨v, h1, h2, h3⟩ := h
  obtain ⟨a, c, rfl⟩ := h2.len
  exact ⟨a, _, c, h1, h2, h3⟩
set_option maxRecDepth 100000 in
set_option maxHeartbeats 8000000 in
theorem rLogAppend_any (d : Dsk) (v lv : Value) (L : List ByteArray) (w0 : World) (h : IsDfs w0 v d.fs) (hl : IsStrs w0 lv L) (hf : FitD nameB d) (hm : ∀ x ∈ L, x.size ≤ maxLen) :
    Calls Tryz.prog 17 #[dskV v d, lv] w0 (RetD (appendD d (txts L)) w0) := by
  have HI := Lib.hid h; have HF := Lib.hid hf; have HL := Lib.hid hl; have HM := Lib.hid hm
  have HLN := Lib.hid (logB_len hf)
  obtain ⟨_, a, cap, hu, _, _⟩ := id h
  obtain ⟨z, hz⟩ : ∃ z, z = d.fs.length := ⟨_, rfl⟩
  rw [← hz] at hu
  subst hu
  obtain ⟨_, la, lc, hlu, _, _⟩ := id hl
  obtain ⟨lz, hlz⟩ : ∃ z, z = L.length := ⟨_, rfl⟩
  rw [← hlz] at hlu
  subst hlu
  have CL := Lib.hid (fun W (hW : Below w0.heap.size w0 W) => rLog_any d (.slice a z cap) W (HI.out.stays hW) HF.out)
  have CF := Lib.hid (fun W (hW : Below w0.heap.size w0 W) => rFrames_any (.slice la lz lc) L W (HL.out.stays hW) HM.out)
  unfold RetLog at CL
  obtain ⟨⟨B, is⟩, hB⟩ : ∃ r, r = logB d := ⟨_, rfl⟩
  have HBB := Lib.hid hB
  rw [← hB] at CL HLN
  dsimp only at CL HLN
  obtain ⟨S, hS⟩ : ∃ S, S = strT B := ⟨_, rfl⟩
  obtain ⟨q, hq⟩ : ∃ q, q = scanEnd B := ⟨_, rfl⟩
  rw [← hS, ← hq] at CL
  have HQ := Lib.hid hq
  have HSB : Hid (S.size = B.length) := Lib.hid (by rw [hS, strT_size])
  have hqB : q ≤ 262144 := by have := scanEnd_le B; have := HLN.out; omega
  obtain ⟨⟨T, ok⟩, hT⟩ : ∃ r, r = framesT (txts L) := ⟨_, rfl⟩
  rw [← hT] at CF
  dsimp only at CF
  obtain ⟨W, hW⟩ : ∃ S, S = strT T := ⟨_, rfl⟩
  rw [← hW] at CF
  have HT := Lib.hid hT; have HW := Lib.hid hW
  -- the answer, by its ways
  have HA2 : Hid (q ≠ B.length → appendD d (txts L) = (d, 2)) := Lib.hid (fun hh => by unfold appendD; rw [← hB]; exact if_pos (by rw [← hq]; exact hh))
  have HA4 : Hid (q = B.length → ok = false → appendD d (txts L) = (d, 4)) := Lib.hid (fun h1 h2 => by
    unfold appendD; rw [← hB, if_neg (by rw [← hq]; exact fun c => c h1)]
    refine if_pos fun c => ?_
    rw [framesT_yes c, h2] at hT; cases (Prod.mk.inj hT).2)
  have HOK : Hid (ok = true → FitR (txts L) ∧ T = wraps (txts L)) := Lib.hid (fun h2 => by
    by_cases c : FitR (txts L)
    · rw [framesT_yes c] at hT; exact ⟨c, (Prod.mk.inj hT).1⟩
    · rw [framesT_no c, h2] at hT; cases (Prod.mk.inj hT).2)
  have HA0 : Hid (q = B.length → ok = true → W.size = 0 → appendD d (txts L) = (d, 0)) := Lib.hid (fun h1 h2 h3 => by
    obtain ⟨g1, g2⟩ := HOK.out h2
    unfold appendD; rw [← hB, if_neg (by rw [← hq]; exact fun c => c h1), if_neg (fun c => c g1)]
    refine if_pos ((wraps_nil_iff g1.1).1 ?_)
    rw [hW, strT_size, g2] at h3
    exact List.length_eq_zero_iff.1 h3)
  have HAW : Hid (q = B.length → ok = true → W.size ≠ 0 → appendD d (txts L) = if (writeD nameB d nLOG (q : Nat) W).2 ≠ 0 then writeD nameB d nLOG (q : Nat) W else syncD (writeD nameB d nLOG (q : Nat) W).1 nLOG) := Lib.hid (fun h1 h2 h3 => by
    obtain ⟨g1, g2⟩ := HOK.out h2
    unfold appendD; rw [← hB, if_neg (by rw [← hq]; exact fun c => c h1), if_neg (fun c => c g1), if_neg (fun c => h3 (by rw [hW, strT_size, g2, c]; rfl))]
    rw [hW, g2, hq])
  have HWS : Hid (W.size ≤ 65536) := Lib.hid (by
    rw [hW, strT_size]
    cases ok with
    | true => obtain ⟨g1, g2⟩ := HOK.out rfl; rw [g2]; exact g1.2
    | false =>
      by_cases c : FitR (txts L)
      · rw [framesT_yes c] at hT; cases (Prod.mk.inj hT).2
      · rw [framesT_no c] at hT; rw [(Prod.mk.inj hT).1]; exact Nat.zero_le _)
  clear h hl hf hm hz hlz hB hS hq hT hW
  obtain ⟨fs, off, fuse⟩ := d
  unfold dskV at CL ⊢
  dsimp only at CL HI ⊢
  obtain ⟨V, hV⟩ : ∃ V, V = (w0.alloc (.cells #[.slice a z cap, .bool off, .int .i64 fuse] 28)).alloc (.cells #[.slice none 0 0, .bool false, .int .i64 0] 28) := ⟨_, rfl⟩
  have hTB := twoB_new w0 a z cap off fuse
  rw [← hV] at hTB
  have HV := Lib.hid hV; have HTB := Lib.hid hTB
  obtain ⟨⟨p0, p1, p2⟩, ⟨r0, r1, r2⟩, fz0, fz1⟩ := hTB.cells
  clear hV hTB
  have C1 := Lib.hid (CL.out V HTB.out.below)
  go_enter Tryz.func17, Tryz.ntmps17
  go_wp2_with fail
  rw [← HV.out]
  go_wp2_with fail
  refine C1.out.mono ?_
  rintro e w2 ⟨sa, sz, sc, rfl, hs2, hb2⟩
  have HT2 := Lib.hid (HTB.out.step hb2)
  clear p0 p1 p2 r0 r1 r2 fz0 fz1 hb2 hs2
  obtain ⟨⟨p0, p1, p2⟩, ⟨r0, r1, r2⟩, fz0, fz1⟩ := HT2.out.cells
  by_cases hqb : q = B.length
  · have e1 : ((q : Int) == (S.size : Int)) = true := by rw [hqb, HSB.out]; simp
    have C2 := Lib.hid (CF.out w2 HT2.out.below)
    have HAWW := Lib.hid (HAW.out hqb); have HAW0 := Lib.hid (HA0.out hqb); have HAW4 := Lib.hid (HA4.out hqb)
    clear hqb
    go_wp2_with fail
    refine C2.out.mono ?_
    rintro e w3 ⟨rfl, hb3⟩
    have HT3 := Lib.hid (HT2.out.step hb3)
    clear p0 p1 p2 r0 r1 r2 fz0 fz1 hb3
    obtain ⟨⟨p0, p1, p2⟩, ⟨r0, r1, r2⟩, fz0, fz1⟩ := HT3.out.cells
    cases ok with
    | false =>
      have HRE := Lib.hid (HAW4.out rfl)
      have HTR := Lib.hid (HT3.out.put1 (a' := .slice a z cap) (b' := .bool off) (c' := .int .i64 fuse))
      unfold putB at HTR
      go_wp2_with fail
      obtain ⟨_, ⟨r0', r1', r2'⟩, _, _⟩ := HTR.out.cells
      exact bodyPost_ret (v := .tuple #[.agg #[.slice a z cap, .bool off, .int .i64 fuse], .int .i64 4]) (by simp [results, Tryz.results17, go_sem, r0', r1', r2']) rfl ⟨.slice a z cap, by rw [HRE.out]; rfl, by rw [HRE.out]; exact HI.out.stays HTR.out.below, HTR.out.below⟩
    | true =>
      by_cases hw0 : W.size = 0
      · have HRE := Lib.hid (HAW0.out rfl hw0)
        have he0 := isE_yes hw0
        have HTR := Lib.hid (HT3.out.put1 (a' := .slice a z cap) (b' := .bool off) (c' := .int .i64 fuse))
        unfold putB at HTR
        clear hw0
        go_wp2_with fail
        obtain ⟨_, ⟨r0', r1', r2'⟩, _, _⟩ := HTR.out.cells
        exact bodyPost_ret (v := .tuple #[.agg #[.slice a z cap, .bool off, .int .i64 fuse], .int .i64 0]) (by simp [results, Tryz.results17, go_sem, r0', r1', r2']) rfl ⟨.slice a z cap, by rw [HRE.out]; rfl, by rw [HRE.out]; exact HI.out.stays HTR.out.below, HTR.out.below⟩
      · have HRE := Lib.hid (HAWW.out rfl hw0)
        have he0 := isE_no hw0
        obtain ⟨⟨⟨fs1, o1, u1⟩, e1⟩, hr1⟩ : ∃ r, r = writeD nameB ⟨fs, off, fuse⟩ nLOG (q : Nat) W := ⟨_, rfl⟩
        have HF1 : Hid (FitD nameB ⟨fs1, o1, u1⟩) := Lib.hid (by have h9 := writeD_fit HF.out nLOG (q : Nat) W; rwa [← hr1] at h9)
        rw [← hr1] at HRE
        have C3 := rWrite_any ⟨fs, off, fuse⟩ (.slice a z cap) nLOG (q : Nat) W w3 (HI.out.stays HT3.out.below) HF.out (by have := HWS.out; omega)
        rw [← hr1] at C3
        unfold dskV nLOG at C3
        have HC3 := Lib.hid C3
        clear C3 hr1 hw0
        dsimp only at HRE
        go_wp2_with fail
        refine HC3.out.mono ?_
        rintro e w4 hr
        obtain ⟨a1, z1, c1, rfl, h1, hb4⟩ := hr.open_Wlc
        dsimp only at h1
        have hT4 := HT3.out.step hb4
        have HI4 := Lib.hid (dfs_put_Wlc (x := .slice a1 z1 c1) (y := .bool o1) (z := .int .i64 u1) hT4.box h1)
        have HT4 := Lib.hid (hT4.put0 (a' := .slice a1 z1 c1) (b' := .bool o1) (c' := .int .i64 u1))
        clear p0 p1 p2 r0 r1 r2 fz0 fz1
        obtain ⟨⟨p0, p1, p2⟩, ⟨r0, r1, r2⟩, fz0, fz1⟩ := hT4.cells
        clear hr h1 hb4 hT4
        by_cases he : e1 = 0
        · subst he
          obtain ⟨⟨⟨fs2, o2, u2⟩, e2⟩, hr2⟩ : ∃ r, r = syncD ⟨fs1, o1, u1⟩ nLOG := ⟨_, rfl⟩
          rw [if_neg (by simp), ← hr2] at HRE
          have C4 := rSync_any ⟨fs1, o1, u1⟩ (.slice a1 z1 c1) nLOG _ HI4.out HF1.out
          rw [← hr2] at C4
          unfold dskV nLOG putB at C4
          have HC4 := Lib.hid C4
          obtain ⟨X, hX⟩ : ∃ X, X = putB w4 w0.heap.size (.slice a1 z1 c1) (.bool o1) (.int .i64 u1) := ⟨_, rfl⟩
          have HX := Lib.hid hX
          clear C4 hr2 hX
          unfold putB at HX
          rw [← HX.out] at HC4
          unfold putB at HT4 HI4
          rw [← HX.out] at HT4 HI4
          go_wp2_with fail
          rw [← HX.out]
          refine HC4.out.mono ?_
          rintro e w5 hr
          obtain ⟨a2, z2, c2, rfl, h2, hb5⟩ := hr.open_Wlc
          dsimp only at h2
          have hT5 := HT4.out.step hb5
          have HI5 := Lib.hid (dfs_put_Wlc (x := .slice a2 z2 c2) (y := .bool o2) (z := .int .i64 u2) hT5.res h2)
          have HT5 := Lib.hid (hT5.put1 (a' := .slice a2 z2 c2) (b' := .bool o2) (c' := .int .i64 u2))
          clear p0 p1 p2 r0 r1 r2 fz0 fz1
          obtain ⟨⟨p0, p1, p2⟩, ⟨r0, r1, r2⟩, fz0, fz1⟩ := hT5.cells
          unfold putB at HT5 HI5
          clear hr h2 hb5 hT5
          go_wp2_with fail
          obtain ⟨_, ⟨r0', r1', r2'⟩, _, _⟩ := HT5.out.cells
          exact bodyPost_ret (v := .tuple #[.agg #[.slice a2 z2 c2, .bool o2, .int .i64 u2], .int .i64 e2]) (by simp [results, Tryz.results17, go_sem, r0', r1', r2']) rfl ⟨.slice a2 z2 c2, by rw [HRE.out]; rfl, by rw [HRE.out]; exact HI5.out, HT5.out.below⟩
        · rw [if_pos he] at HRE
          have g1 : (e1 == 0) = false := by simpa using he
          have HTR := Lib.hid (HT4.out.put1 (a' := .slice a1 z1 c1) (b' := .bool o1) (c' := .int .i64 u1))
          have HIR := Lib.hid (dfs_put_Wlc (x := .slice a1 z1 c1) (y := .bool o1) (z := .int .i64 u1) HT4.out.res HI4.out)
          unfold putB at HTR HIR
          clear he
          go_wp2_with fail
          obtain ⟨_, ⟨r0', r1', r2'⟩, _, _⟩ := HTR.out.cells
          exact bodyPost_ret (v := .tuple #[.agg #[.slice a1 z1 c1, .bool o1, .int .i64 u1], .int .i64 e1]) (by simp [results, Tryz.results17, go_sem, r0', r1', r2']) rfl ⟨.slice a1 z1 c1, by rw [HRE.out]; rfl, by rw [HRE.out]; exact HIR.out, HTR.out.below⟩
  · have e1 : ((q : Int) == (S.size : Int)) = false := by rw [HSB.out]; simp; omega
    have HRE := Lib.hid (HA2.out hqb)
    have HTR := Lib.hid (HT2.out.put1 (a' := .slice a z cap) (b' := .bool off) (c' := .int .i64 fuse))
    unfold putB at HTR
    clear hqb
    go_wp2_with fail
    obtain ⟨_, ⟨r0', r1', r2'⟩, _, _⟩ := HTR.out.cells
    exact bodyPost_ret (v := .tuple #[.agg #[.slice a z cap, .bool off, .int .i64 fuse], .int .i64 2]) (by simp [results, Tryz.results17, go_sem, r0', r1', r2']) rfl ⟨.slice a z cap, by rw [HRE.out]; rfl, by rw [HRE.out]; exact HI.out.stays HTR.out.below, HTR.out.below⟩
def WalAppend16 (w0 : World) : Prop := ∀ (W : World), Below w0.heap.size w0 W → ∀ (d : Dsk) (v lv : Value) (L : List ByteArray), IsDfs W v d.fs → IsStrs W lv L → FitD nameB d → L.length ≤ 40 → (∀ x ∈ L, x.size ≤ 300) →
  Calls Tryz.prog 9 #[dskV v d, lv] W (RetD (appendD d (txts L)) W)
def WalTrim16 (w0 : World) : Prop := ∀ (W : World), Below w0.heap.size w0 W → ∀ (d : Dsk) (v : Value), IsDfs W v d.fs → FitD nameB d →
  Calls Tryz.prog 11 #[dskV v d] W (RetD (trimD d) W)
def RetL16 (R : List Txt) (w : World) (e : Ending) (w' : World) : Prop := ∃ (a : Option Addr) (z c : Nat), e = .returned (.slice a z c) ∧ IsStrs w' (.slice a z c) (strsOf R) ∧ Below w.heap.size w w'
def WalLoad16 (w0 : World) : Prop := ∀ (W : World), Below w0.heap.size w0 W → ∀ (d : Dsk) (v : Value), IsDfs W v d.fs → FitD nameB d →
  Calls Tryz.prog 12 #[dskV v d] W (RetL16 (textsOf (logB d).1) W)
theorem appendD_fit {d : Dsk} (h : FitD nameB d) (L : List Txt) : FitD nameB (appendD d L).1 := by
  unfold appendD
  split
  · exact h
  split
  · exact h
  split
  · exact h
  split
  · exact writeD_fit h _ _ _
  · exact syncD_fit (writeD_fit h _ _ _) _
theorem andD_fit {r : Dsk × Int} {f : Dsk → Dsk × Int} (h : FitD nameB r.1) (hf : ∀ d, FitD nameB d → FitD nameB (f d).1) : FitD nameB (andD r f).1 := by
  unfold andD
  split
  · exact hf _ h
  · exact h
theorem trimD_fit {d : Dsk} (h : FitD nameB d) : FitD nameB (trimD d).1 := by
  unfold trimD
  split
  · split
    · exact syncD_fit h _
    · exact h
  · unfold cutD
    refine andD_fit (andD_fit (andD_fit ?_ fun d hd => writeD_fit hd _ _ _) fun d hd => syncD_fit hd _) fun d hd => renameD_fit hd _ _
    split
    · exact removeD_fit h _
    · exact h
theorem fuse_fit {fs : List Dfl} {o : Bool} {f g : Int} (h : FitD nameB ⟨fs, o, f⟩) (h1 : -1 ≤ g) (h2 : g ≤ 1048576) : FitD nameB ⟨fs, false, g⟩ := ⟨h.many, h1, h2, fun e => (by cases e), h.files, h.rise⟩
def LightS (L : List ByteArray) : Prop := (∀ x ∈ L, x.size ≤ 300) ∧ L.length ≤ 20
noncomputable def lightB (L : List ByteArray) : Bool := @decide (LightS L) (Classical.propDecidable _)
theorem lightB_yes {L : List ByteArray} (h : LightS L) : lightB L = true := @decide_eq_true _ (Classical.propDecidable _) h
theorem lightB_no {L : List ByteArray} (h : ¬ LightS L) : lightB L = false := @decide_eq_false _ (Classical.propDecidable _) h
theorem lightB_iff {L : List ByteArray} : lightB L = true ↔ LightS L := ⟨fun h => Classical.byContradiction fun c => (by rw [lightB_no c] at h; cases h), lightB_yes⟩
theorem LightS.light {L : List ByteArray} (h : LightS L) : LightR 6280 (txts L) := light_of (fun t ht => by
  obtain ⟨x, hx, rfl⟩ := List.mem_map.1 ht
  rw [dsize]; exact h.1 x hx) (by rw [txts_len]; exact h.2)
set_option maxRecDepth 100000 in
set_option maxHeartbeats 8000000 in
theorem light16_any (v : Value) (L : List ByteArray) (w0 : World) (h : IsStrs w0 v L) :
    Calls Tryz.prog 6 #[v] w0 fun e w' => e = .returned (.bool (lightB L)) ∧ Below w0.heap.size w0 w' := by
  have HI := Lib.hid h
  obtain ⟨hml, a, cap, hu, _, _⟩ := id h
  obtain ⟨z, hz⟩ : ∃ z, z = L.length := ⟨_, rfl⟩
  rw [← hz] at hu
  subst hu
  have HZ := Lib.hid hz
  have hmz : z ≤ 9223372036854775807 := by unfold maxLen at hml; omega
  clear h hml hz
  go_enter Tryz.func6, Tryz.ntmps6
  go_wp2_with fail
  go_loopw [7] (fun i wr => ∃ k : Nat, k ≤ z ∧ i = .int .i64 k ∧ (∀ x ∈ L.take k, x.size ≤ 300) ∧ Below w0.heap.size w0 wr) (fun i _ => z - (intOf i).toNat)
  case atStart => exact ⟨0, Nat.zero_le _, rfl, fun x h => (by cases h), Below.refl _ _⟩
  case round =>
    obtain ⟨k, hk, rfl, hf, hB⟩ := hrel
    have HF := Lib.hid hf; have HB := Lib.hid hB
    by_cases hlt : k < z
    · have hko : k < L.length := by have := HZ.out; omega
      obtain ⟨_, _, _, hev, _, hc⟩ := HI.out.stays hB
      rw [← HZ.out] at hev
      cases hev
      obtain ⟨b1, o1, rfl, hbl, g1⟩ := hc (by omega)
      have q0 := g1 k hko
      have HTK := Lib.hid (List.take_succ_eq_append_getElem hko)
      have HME := Lib.hid (List.getElem_mem hko)
      obtain ⟨x, hx⟩ : ∃ x, x = L[k]'hko := ⟨_, rfl⟩
      rw [← hx] at q0 HTK HME
      have hbk : decide ((k : Int) < (z : Int)) = true := by simpa using (show (k : Int) < z by omega)
      clear g1 hc hx hB hf
      by_cases h3 : 300 < x.size
      · have d1 : decide ((300 : Int) < (x.size : Int)) = true := decide_eq_true (by omega)
        have HN := Lib.hid (lightB_no (L := L) fun c => by have := c.1 x HME.out; omega)
        clear h3
        go_wp2_with fail
        go_ret
        exact ⟨by rw [HN.out]; rfl, HB.out⟩
      · have d1 : decide ((300 : Int) < (x.size : Int)) = false := decide_eq_false (by omega)
        have HFN : Hid (∀ x ∈ L.take (k + 1), x.size ≤ 300) := Lib.hid (fun y hy => by
          rw [HTK.out] at hy
          rcases List.mem_append.1 hy with hy | hy
          · exact HF.out y hy
          · rw [List.mem_singleton.1 hy]; omega)
        clear h3
        go_wp2_with fail
        go_roundw
        case rel => exact ⟨k + 1, by omega, by go_num, HFN.out, HB.out⟩
        case measure => simp [intOf]; omega
    · obtain rfl : k = z := by omega
      have hbk : decide ((k : Int) < (k : Int)) = false := by simp
      have HA : Hid (∀ x ∈ L, x.size ≤ 300) := Lib.hid (by have := HF.out; rwa [List.take_of_length_le (by have := HZ.out; omega)] at this)
      clear hf hB
      by_cases h2 : k ≤ 20
      · have d1 : decide ((k : Int) ≤ (20 : Int)) = true := decide_eq_true (by omega)
        have HS := Lib.hid (lightB_yes (L := L) ⟨HA.out, by have := HZ.out; omega⟩)
        go_wp2_with fail
        go_ret
        exact ⟨by rw [HS.out]; rfl, HB.out⟩
      · have d1 : decide ((k : Int) ≤ (20 : Int)) = false := decide_eq_false (by omega)
        have HS := Lib.hid (lightB_no (L := L) fun c => by have := c.2; have := HZ.out; omega)
        go_wp2_with fail
        go_ret
        exact ⟨by rw [HS.out]; rfl, HB.out⟩
theorem strs_two16 (w : World) (x y : ByteArray) : IsStrs (w.alloc (.cells #[.string x, .string y] 9)) (.slice (some ⟨w.heap.size, 0, none⟩) 2 2) [x, y] := by
  have hR := Row.made w #[.string x, .string y] 9
  refine ⟨(by unfold maxLen; show 2 ≤ 2 ^ 63 - 1; decide), some ⟨w.heap.size, 0, none⟩, 2, rfl, ⟨fun h => (by cases h), Nat.le_refl _⟩, fun _ => ⟨w.heap.size, 0, rfl, hR.lt, fun i hi => ?_⟩⟩
  match i, hi with
  | 0, _ => exact hR.cell 0
  | 1, _ => exact hR.cell 1
def dW0 : Dsk := ⟨[], false, -1⟩
theorem fitW0 : FitD nameB dW0 := ⟨Nat.zero_le _, by decide, by decide, fun _ => rfl, fun f h => (by cases h), List.Pairwise.nil⟩
theorem load_logF {R : List Txt} {b : Bool} {m : Nat} (hb : b = false → R = []) (hR : LightR m R) (o : Bool) (fu : Int) : textsOf (logB ⟨logF (wraps R) [] b, o, fu⟩).1 = R := by rw [logB_logF hb]; exact (scan_wraps hR.1).1
theorem append_W0 {L : List Txt} {k : Nat} (hL : LightR k L) (hk : k ≤ 65536) : appendD dW0 L = (⟨logF (wraps L) [] (!L.isEmpty), false, -1⟩, 0) := by
  have := append_un (R := []) (L := L) (b := false) (m := 0) (fun _ => rfl) ⟨fun t h => (by cases h), Nat.le_refl _⟩ hL hk (by omega)
  exact this
theorem isEmpty_no {L : List Txt} : (!L.isEmpty) = false → L = [] := fun h => by cases L with | nil => rfl | cons _ _ => cases h
set_option maxRecDepth 100000 in
set_option maxHeartbeats 8000000 in
theorem awake16_any (w0 : World) (HAP : WalAppend16 w0) (HLD : WalLoad16 w0) : ∀ W, Below w0.heap.size w0 W → Calls Tryz.prog 7 #[] W fun e w' => e = .returned (.bool true) ∧ Below W.heap.size W w' := by
  intro W hW
  have HW := Lib.hid hW
  have hL : LightR 6280 (txts [⟨#[97]⟩, ⟨#[98]⟩]) := light_of (fun t ht => by
    simp [txts] at ht; rcases ht with rfl | rfl <;> decide) (by decide)
  obtain ⟨R, hR⟩ : ∃ R, R = txts [⟨#[97]⟩, ⟨#[98]⟩] := ⟨_, rfl⟩
  have hA := append_W0 hL (by decide)
  rw [← hR] at hA hL
  obtain ⟨bb, hbb⟩ : ∃ b, b = !R.isEmpty := ⟨_, rfl⟩
  rw [← hbb] at hA
  have hb0 : bb = false → R = [] := fun h => isEmpty_no (by rw [← hbb]; exact h)
  have HFD : Hid (FitD nameB ⟨logF (wraps R) [] bb, false, -1⟩) := Lib.hid (by have h9 := appendD_fit fitW0 R; rwa [hA] at h9)
  have HRS : Hid (strsOf R = [⟨#[97]⟩, ⟨#[98]⟩]) := Lib.hid (by rw [hR, strsOf_txts])
  have HTX := Lib.hid (load_logF hb0 hL false (-1))
  obtain ⟨fs1, hfs1⟩ : ∃ f, f = logF (wraps R) [] bb := ⟨_, rfl⟩
  rw [← hfs1] at hA HFD HTX
  have CA := Lib.hid (fun V (hV : Below W.heap.size W V) => HAP _ (below_step hW ((hV.alloc hV.size (.cells #[.string ⟨#[97]⟩, .string ⟨#[98]⟩] 9)))) dW0 (.slice none 0 0) _ [⟨#[97]⟩, ⟨#[98]⟩] (dfs_nil _) (strs_two16 V _ _) fitW0 (by decide) (fun x hx => by simp at hx; rcases hx with rfl | rfl <;> decide))
  rw [← hR, hA] at CA
  have CL := Lib.hid (fun V (hV : Below W.heap.size W V) (v : Value) (h : IsDfs V v fs1) => HLD V (below_step hW hV) ⟨fs1, false, -1⟩ v h HFD.out)
  rw [HTX.out] at CL
  unfold RetL16 at CL
  rw [HRS.out] at CL
  unfold dskV at CA CL
  dsimp only [dW0] at CA CL
  clear hR hA hL hbb hb0 hfs1 hW
  go_enter Tryz.func7, Tryz.ntmps7
  go_wp2_with fail
  refine (CA.out W (Below.refl _ _)).mono ?_
  rintro e w1 hr
  obtain ⟨a1, z1, c1, rfl, h1, hb1⟩ := hr.open_Wlc
  have HB1 := Lib.hid (below_step ((Below.refl W.heap.size W).alloc (Nat.le_refl _) (.cells #[.string ⟨#[97]⟩, .string ⟨#[98]⟩] 9)) hb1)
  have HI1 := Lib.hid h1
  clear hr h1 hb1
  dsimp only
  go_wp2_with fail
  obtain ⟨X, hX⟩ : ∃ X, X = w1.alloc (.cells #[.slice a1 z1 c1, .bool false, .int .i64 (-1)] 28) := ⟨_, rfl⟩
  have hbX : Below w1.heap.size w1 X := by rw [hX]; exact (Below.refl _ _).alloc (Nat.le_refl _) _
  have HBX := Lib.hid (below_step HB1.out hbX); have HIX := Lib.hid (HI1.out.stays hbX)
  rw [← hX]
  clear hX hbX
  refine (CL.out X HBX.out _ HIX.out).mono ?_
  rintro e w2 ⟨a2, z2, c2, rfl, hs2, hb2⟩
  have HB2 := Lib.hid (below_step HBX.out hb2); have HS2 := Lib.hid hs2
  have C3 := Lib.hid (Same_eq (.slice a2 z2 c2) (.slice (some ⟨w2.heap.size, 0, none⟩) 2 2) [⟨#[97]⟩, ⟨#[98]⟩] _ (hs2.stays ((Below.refl w2.heap.size w2).alloc (Nat.le_refl _) (.cells #[.string ⟨#[97]⟩, .string ⟨#[98]⟩] 9))) (strs_two16 w2 _ _))
  clear hs2 hb2
  go_wp2_with fail
  refine C3.out.mono ?_
  rintro e w3 ⟨rfl, hb3⟩
  have HB3 := Lib.hid (below_step HB2.out (below_step ((Below.refl w2.heap.size w2).alloc (Nat.le_refl _) (.cells #[.string ⟨#[97]⟩, .string ⟨#[98]⟩] 9)) hb3))
  clear hb3
  go_wp2_with fail
  go_ret
  exact ⟨rfl, HB3.out⟩
theorem set_far16 {w : World} {b i : Nat} {u : Value} {p : Addr} (h : p.block ≠ b) : (w.setCell ⟨b, i, none⟩ u).cell? p = w.cell? p := World.cell?_setCell_other _ _ _ _ (fun e => h (by rw [← e]))
section
variable {w w' : World} {b : Nat} {v : Value} (hf : ∀ p : Addr, p.block ≠ b → w'.cell? p = w.cell? p) (hs : w'.heap.size = w.heap.size) (hn : ∀ i s, w.cell? ⟨b, i, none⟩ = some (.string s) → False)
include hf hs hn
theorem ops_far16 {L : List Dop} (h : IsOps w v L) : IsOps w' v L := by
  obtain ⟨h0, a, cap, h1, h2, h3⟩ := h
  refine ⟨h0, a, cap, h1, h2, fun hL => ?_⟩
  obtain ⟨b', off, e, hlt, hc⟩ := h3 hL
  refine ⟨b', off, e, by rw [hs]; exact hlt, fun i hi => ?_⟩
  obtain ⟨c0, c1⟩ := hc i hi
  have hne : b' ≠ b := fun e => hn _ _ (by rw [← e]; exact c1)
  exact ⟨(hf ⟨b', _, none⟩ hne).trans c0, (hf ⟨b', _, none⟩ hne).trans c1⟩
theorem dfs_far16 {L : List Dfl} (h : IsDfs w v L) : IsDfs w' v L := by
  obtain ⟨h0, a, cap, h1, h2, h3⟩ := h
  refine ⟨h0, a, cap, h1, h2, fun hL => ?_⟩
  obtain ⟨b', off, e, hlt, hc⟩ := h3 hL
  refine ⟨b', off, e, by rw [hs]; exact hlt, fun i hi => ?_⟩
  obtain ⟨u, c0, c1, c2, c3⟩ := hc i hi
  have hne : b' ≠ b := fun e => hn _ _ (by rw [← e]; exact c0)
  exact ⟨u, (hf ⟨b', _, none⟩ hne).trans c0, (hf ⟨b', _, none⟩ hne).trans c1, (hf ⟨b', _, none⟩ hne).trans c2, ops_far16 hf hs hn c3⟩
theorem strs_far16 {L : List ByteArray} (h : IsStrs w v L) : IsStrs w' v L := by
  obtain ⟨h0, a, cap, h1, h2, h3⟩ := h
  refine ⟨h0, a, cap, h1, h2, fun hL => ?_⟩
  obtain ⟨b', off, e, hlt, hc⟩ := h3 hL
  refine ⟨b', off, e, by rw [hs]; exact hlt, fun i hi => ?_⟩
  have hne : b' ≠ b := fun e => hn _ _ (by rw [← e]; exact hc i hi)
  exact (hf ⟨b', _, none⟩ hne).trans (hc i hi)
end
section
variable {w : World} {b : Nat} {a : Option Addr} {n c : Nat} {o : Bool} {f : Int} {T : TypeId} {x y z u v : Value} (hR : Row w b #[.slice a n c, .bool o, .int .i64 f] T)
include hR
theorem dfs_put16 {L : List Dfl} (h : IsDfs w v L) : IsDfs (putB w b x y z) v L := dfs_far16 (fun p hp => put_far_Wlc hp) put_size_Wlc (fun i s => no_string_Wlc hR) h
theorem strs_put16 {L : List ByteArray} (h : IsStrs w v L) : IsStrs (putB w b x y z) v L := strs_far16 (fun p hp => put_far_Wlc hp) put_size_Wlc (fun i s => no_string_Wlc hR) h
theorem dfs_set16 {i : Nat} {L : List Dfl} (h : IsDfs w v L) : IsDfs (w.setCell ⟨b, i, none⟩ u) v L := dfs_far16 (fun p hp => set_far16 hp) (by simp [World.setCell]) (fun i s => no_string_Wlc hR) h
end
theorem Row.put16 {W : World} {B : Nat} {a b c x y z : Value} {T : TypeId} (h : Row W B #[a, b, c] T) : Row (putB W B x y z) B #[x, y, z] T := by
  have := ((h.set 0 x).set 1 y).set 2 z; exact this
theorem Row.put16_other {W : World} {B b : Nat} {xs : Array Value} {x y z : Value} {T : TypeId} (h : Row W B xs T) (hne : B ≠ b) : Row (putB W b x y z) B xs T :=
  ((h.other ⟨b, 0, none⟩ x hne).other ⟨b, 1, none⟩ y hne).other ⟨b, 2, none⟩ z hne
theorem Row.fuse16 {W : World} {B : Nat} {a b c z : Value} {T : TypeId} (h : Row W B #[a, b, c] T) : Row (W.setCell ⟨B, 2, none⟩ z) B #[a, b, z] T := by
  have := h.set 2 z; exact this
theorem Row.three16 {W : World} {B : Nat} {a b c : Value} {T : TypeId} (h : Row W B #[a, b, c] T) : (W.cell? ⟨B, 0, none⟩ = some a ∧ W.cell? ⟨B, 1, none⟩ = some b ∧ W.cell? ⟨B, 2, none⟩ = some c) ∧ (∀ i, W.frozen? ⟨B, i, none⟩ = false) := by
  have p0 := h.cell 0; have p1 := h.cell 1; have p2 := h.cell 2
  simp only [List.getElem?_toArray, List.getElem?_cons_zero, List.getElem?_cons_succ] at p0 p1 p2
  exact ⟨⟨p0, p1, p2⟩, fun i => h.free i⟩
theorem below_put16 {B b : Nat} {w W : World} {x y z : Value} (h : Below B w W) (hb : B ≤ b) : Below B w (putB W b x y z) :=
  ((h.setCell (p := ⟨b, 0, none⟩) hb x).setCell (p := ⟨b, 1, none⟩) hb y).setCell (p := ⟨b, 2, none⟩) hb z
theorem below_fuse16 {B b : Nat} {w W : World} {z : Value} (h : Below B w W) (hb : B ≤ b) : Below B w (W.setCell ⟨b, 2, none⟩ z) := h.setCell (p := ⟨b, 2, none⟩) hb z
set_option maxRecDepth 100000 in
set_option maxHeartbeats 8000000 in
theorem Same_any16 (v1 v2 : Value) (L M : List ByteArray) (w0 : World) (h1 : IsStrs w0 v1 L) (h2 : IsStrs w0 v2 M) :
    Calls Tryz.prog 13 #[v1, v2] w0 fun e w' => ∃ b : Bool, e = .returned (.bool b) ∧ Below w0.heap.size w0 w' := by
  have HI := Lib.hid h1; have HJ := Lib.hid h2
  obtain ⟨hml, a, cap, hu, _, _⟩ := id h1
  obtain ⟨hmm, a', cap', hu', _, _⟩ := id h2
  obtain ⟨z, hz⟩ : ∃ z, z = L.length := ⟨_, rfl⟩
  obtain ⟨y, hy⟩ : ∃ z, z = M.length := ⟨_, rfl⟩
  rw [← hz] at hu; rw [← hy] at hu'
  subst hu hu'
  have HZ := Lib.hid hz; have HY := Lib.hid hy
  have hmz : z ≤ 9223372036854775807 := by unfold maxLen at hml; omega
  clear h1 h2 hml hmm hz hy
  by_cases hzy : z = y
  · subst hzy
    have e1 : ((z : Int) == (z : Int)) = true := by simp
    go_enter Tryz.func13, Tryz.ntmps13
    go_wp2_with fail
    go_loopw [5] (fun i wr => ∃ k : Nat, k ≤ z ∧ i = .int .i64 k ∧ Below w0.heap.size w0 wr) (fun i _ => z - (intOf i).toNat)
    case atStart => exact ⟨0, Nat.zero_le _, rfl, Below.refl _ _⟩
    case round =>
      obtain ⟨k, hk, rfl, hB⟩ := hrel
      have HB := Lib.hid hB
      by_cases hlt : k < z
      · have hko : k < L.length := by have := HZ.out; omega
        have hkm : k < M.length := by have := HY.out; omega
        obtain ⟨_, _, _, hev, _, hc⟩ := HI.out.stays hB
        rw [← HZ.out] at hev
        cases hev
        obtain ⟨b1, o1, rfl, hbl, g1⟩ := hc (by omega)
        obtain ⟨_, _, _, hev, _, hc'⟩ := HJ.out.stays hB
        rw [← HY.out] at hev
        cases hev
        obtain ⟨b2, o2, rfl, hbl2, g2⟩ := hc' (by omega)
        have q0 := g1 k hko; have q1 := g2 k hkm
        obtain ⟨s, hs⟩ : ∃ x, x = L[k]'hko := ⟨_, rfl⟩
        obtain ⟨t, ht⟩ : ∃ x, x = M[k]'hkm := ⟨_, rfl⟩
        rw [← hs] at q0; rw [← ht] at q1
        have hbk : decide ((k : Int) < (z : Int)) = true := by simpa using (show (k : Int) < z by omega)
        clear g1 g2 hc hc' hs ht hB
        by_cases hst : s = t
        · subst hst
          have t1 : (s.toList == s.toList) = true := beq_str rfl
          go_wp2_with fail
          go_quiet (fail)
          go_wp2
          go_roundw
          case rel => exact ⟨k + 1, by omega, by go_num, below_drewN HB.out _⟩
          case measure => simp [intOf]; omega
        · have t1 : (s.toList == t.toList) = false := bne_str hst
          clear hst
          go_wp2_with fail
          go_quiet (fail)
          go_wp2
          go_ret
          exact ⟨false, rfl, below_drewN HB.out _⟩
      · obtain rfl : k = z := by omega
        have hbk : decide ((k : Int) < (k : Int)) = false := by simp
        clear hB
        go_wp2_with fail
        go_ret
        exact ⟨true, rfl, HB.out⟩
  · have e1 : ((z : Int) == (y : Int)) = false := by simp; omega
    go_enter Tryz.func13, Tryz.ntmps13
    go_wp2_with fail
    go_ret
    exact ⟨false, rfl, Below.refl _ _⟩
theorem solid16_any (v : Value) (L : List ByteArray) (w0 : World) (h : IsStrs w0 v L) (hL : LightS L) {fs : List Dfl} (hfs : fs = logF (wraps (txts L)) [] (!(txts L).isEmpty)) :
    Calls Tryz.prog 8 #[v] w0 fun e w' => ∃ (a : Option Addr) (z c : Nat), e = .returned (.tuple #[.agg #[.slice a z c, .bool false, .int .i64 (-1)], .bool true]) ∧ IsDfs w' (.slice a z c) fs ∧ Below w0.heap.size w0 w' := by
  have HI := Lib.hid h
  have hA := append_W0 hL.light (by decide)
  rw [← hfs] at hA
  obtain ⟨_, a, cap, hu, _, _⟩ := id h
  obtain ⟨z, hz⟩ : ∃ z, z = L.length := ⟨_, rfl⟩
  rw [← hz] at hu
  subst hu
  have C := fun W (hW : Below w0.heap.size w0 W) => rLogAppend_any dW0 (.slice none 0 0) (.slice a z cap) L W (dfs_nil W) (HI.out.stays hW) fitW0 (fun x hx => Nat.le_trans (hL.1 x hx) (by unfold maxLen; decide))
  rw [hA] at C
  unfold dskV at C
  dsimp only [dW0] at C
  have HC := Lib.hid C
  clear h hz hA hfs hL C
  obtain ⟨V, hV⟩ : ∃ V, V = w0.alloc (.cells #[.slice none 0 0, .bool false, .int .i64 0] 28) := ⟨_, rfl⟩
  have hbV : Below w0.heap.size w0 V := by rw [hV]; exact (Below.refl _ _).alloc (Nat.le_refl _) _
  have hR : Row V w0.heap.size #[.slice none 0 0, .bool false, .int .i64 0] 28 := by rw [hV]; exact Row.made _ _ _
  have HV := Lib.hid hV; have HB := Lib.hid hbV; have HR := Lib.hid hR
  clear hV hbV hR
  go_enter Tryz.func8, Tryz.ntmps8
  go_wp2_with fail
  rw [← HV.out]
  refine (HC.out V HB.out).mono ?_
  rintro e w1 hr
  obtain ⟨a1, z1, c1, rfl, h1, hb⟩ := hr.open_Wlc
  dsimp only at h1 ⊢
  have hR1 := HR.out.step hb
  have HB1 := Lib.hid (below_step HB.out hb)
  obtain ⟨⟨p0, p1, p2⟩, pz⟩ := hR1.three16
  have pl := hR1.lt
  have hbX : Below w1.heap.size w1 (w1.alloc (.cells #[.slice a1 z1 c1, .bool false, .int .i64 (-1)] 28)) := (Below.refl _ _).alloc (Nat.le_refl _) _
  have HIX := Lib.hid (h1.stays hbX)
  have HP := Lib.hid ((dfs_put16 (x := .slice a1 z1 c1) (y := .bool false) (z := .int .i64 (-1)) hR1 h1).stays ((Below.refl _ _).alloc (Nat.le_refl _) (.cells #[.slice a1 z1 c1, .bool false, .int .i64 (-1)] 28)))
  have HBP := Lib.hid (below_step (below_put16 (x := .slice a1 z1 c1) (y := .bool false) (z := .int .i64 (-1)) HB1.out (Nat.le_refl _)) ((Below.refl _ _).alloc (Nat.le_refl _) (.cells #[.slice a1 z1 c1, .bool false, .int .i64 (-1)] 28)))
  have HRP := Lib.hid ((hR1.put16 (x := .slice a1 z1 c1) (y := .bool false) (z := .int .i64 (-1))).alloc (.cells #[.slice a1 z1 c1, .bool false, .int .i64 (-1)] 28))
  unfold putB at HP HBP HRP
  clear hr h1 hb hR1 hbX
  go_wp2_with fail
  obtain ⟨⟨r0', r1', r2'⟩, _⟩ := HRP.out.three16
  exact bodyPost_ret (v := .tuple #[.agg #[.slice a1 z1 c1, .bool false, .int .i64 (-1)], .bool true]) (by simp [results, Tryz.results8, go_sem, r0', r1', r2']) rfl ⟨a1, z1, c1, rfl, HP.out, HBP.out⟩
end Go.Proofs.YtalknbadakfppaaGreat
set_option linter.unusedVariables false
namespace Go.Proofs.YtalknbadakfppaaGreat
open Go.RowKit
theorem wraps_ge : ∀ {L : List Txt}, (∀ t ∈ L, t.length ≤ 65536) → L.length ≤ (wraps L).length
  | [], _ => Nat.zero_le _
  | t :: L, h => by
    rw [wraps_cons, List.length_append, List.length_cons]
    have h1 := (fwrap_len (h t (List.mem_cons_self ..))).1
    have h2 := wraps_ge fun x hx => h x (List.mem_cons_of_mem _ hx)
    omega
structure TornS (fsT : List Dfl) (WS : List Txt) (b2 : Bool) : Prop where
  fit : FitD nameB ⟨fsT, false, -1⟩
  recs : textsOf (logB ⟨fsT, false, -1⟩).1 = WS
  trim : trimD ⟨fsT, false, -1⟩ = (⟨logF (wraps WS) [] b2, false, -1⟩, 0)
  none : b2 = false → WS = []
  light : LightR 6580 WS
theorem torn_not {R : List Txt} {b : Bool} (hb : b = false → R = []) (hR : LightR 6280 R) (hf : FitD nameB ⟨logF (wraps R) [] b, false, -1⟩) : TornS (logF (wraps R) [] b) R b :=
  ⟨hf, load_logF hb hR false (-1), trim_un hb hR, hb, hR.1, Nat.le_trans hR.2 (by decide)⟩
theorem torn_is {R : List Txt} {s : ByteArray} (hR : LightR 6280 R) (hs : s.size ≤ 300) (hf : FitD nameB ⟨oneL (wraps R) [⟨((wraps R).length : Nat), s⟩], false, -1⟩) :
    TornS (oneL (wraps R) [⟨((wraps R).length : Nat), s⟩]) (textsOf (wraps R ++ s.data.toList)) true := by
  have hl : (wraps R ++ s.data.toList).length ≤ 6580 := by rw [List.length_append, dsize]; have := hR.2; omega
  have hst := scan_take (wraps R ++ s.data.toList)
  refine ⟨hf, by rw [logB_one, seen_end], ?_, fun h => (by cases h), hst.1, ?_⟩
  · have h := trim_torn (wraps R) [⟨((wraps R).length : Nat), s⟩] (by rw [seen_end]; omega)
    rw [seen_end] at h
    exact h
  · rw [← hst.2, List.length_take]; omega
end Go.Proofs.YtalknbadakfppaaGreat
set_option linter.unusedVariables false
namespace Go.Proofs.YtalknbadakfppaaGreat
open Go.RowKit
attribute [local go_sem] Oper.semAt_some
theorem zerosD_one {n : Nat} : ∀ u ∈ (Builtin.zeroCells (dfrV zeroDfr).cells n).toList, u.oneCell' = true := by
  intro u hu
  simp only [Builtin.zeroCells, Array.toList_map, List.mem_map] at hu
  obtain ⟨k, _, rfl⟩ := hu
  have h4 : k % 3 < 3 := Nat.mod_lt _ (by decide)
  show (((dfrV zeroDfr).cells)[k % 3]!).oneCell' = true
  rcases (show k % 3 = 0 ∨ k % 3 = 1 ∨ k % 3 = 2 by omega) with e | e | e <;> rw [e] <;> rfl
theorem grownBy_setRow_Dlc (w : World) (g : Nat) (C : Array Value) : w.grownBy (w.setRow g C) (some g) :=
  ⟨rfl, rfl, rfl, by simp, fun k hk hr => setRow_other w g k C (fun e => hr (by rw [e]))⟩
theorem grown_trans_Dld {a b c : World} {row : Option Nat} (h : a.grownBy b row) (k : b.grownBy c row) : a.grownBy c row :=
  ⟨k.os.trans h.os, k.tape.trans h.tape, k.output.trans h.output, Nat.le_trans h.size k.size, fun i hi hr => (k.block i (Nat.lt_of_lt_of_le hi h.size) hr).trans (h.block i hi hr)⟩
theorem run_clear_row_Dlc {P : Program} (w : World) (t e ty : TypeId) (z : Value) (ht : P.underlying t = some (.slice e)) (hv : ∀ w, (zeroValue e).run P w = .ok z w) (g off n c : Nat) (hn : 0 < n) (cur : Array Value) (tt : TypeId)
    (hg : w.heap[g]? = some (.cells cur tt (0, 0))) (zs : List Value) (hzs : zs = (Builtin.zeroCells z.cells n).toList) (hfit : off + zs.length ≤ cur.size) (h1 : ∀ u ∈ zs, u.oneCell' = true) :
    (Builtin.clear_ #[t] ty #[.slice (some ⟨g, off, none⟩) n c]).run P w = .ok (.tuple #[]) (w.setRow g (cur.toList.take off ++ zs ++ cur.toList.drop (off + zs.length)).toArray) := by
  have hst := run_storeCells_at P g off tt zs 0 cur w hg (by simpa using hfit) h1
  simp only [Nat.add_zero] at hst
  obtain ⟨m, rfl⟩ : ∃ m, n = m + 1 := ⟨n - 1, by omega⟩
  subst hzs
  simp only [Builtin.clear_, List.getElem?_toArray, List.getElem?_cons_zero, Sem.run_bind, run_underlying ht, Result.andThen_ok, hv, hst, Sem.run_pure]
theorem ownD_clear {B : Nat} {w : World} {g n cap m : Nat} {K : List Dfr} (h : OwnD B w (.slice (some ⟨g, 0, none⟩) n cap) K) (hm : 0 < m) (hc : n + m ≤ cap) :
    ∃ C, (∀ ty c, (Builtin.clear_ #[26] ty #[.slice (some ⟨g, n * 3, none⟩) m c]).run Tryz.prog w = .ok (.tuple #[]) (w.setRow g C)) ∧
      OwnD B (w.setRow g C) (.slice (some ⟨g, 0, none⟩) n cap) K ∧ w.grownBy (w.setRow g C) (some g) := by
  rcases h.2 with ⟨h0, _⟩ | ⟨g', cap', cur, h1, h2, h3, h4, h5, h6, h7⟩
  · cases h0
  cases h1
  obtain ⟨zs, hzs⟩ : ∃ zs, zs = (Builtin.zeroCells (dfrV zeroDfr).cells m).toList := ⟨_, rfl⟩
  have hzl : zs.length = m * 3 := by rw [hzs, Array.length_toList, size_zeroCells]; rfl
  refine ⟨_, fun ty c => run_clear_row_Dlc w _ 56 ty (dfrV zeroDfr) Tryz.underlying26 Tryz.zeroValue56 g (K.length * 3) m c hm cur 56 h3 zs hzs (by omega) (by rw [hzs]; exact zerosD_one), ?_, grownBy_setRow_Dlc _ _ _⟩
  refine ⟨h.1, .inr ⟨g, cap, _, rfl, h2, setRow_heap w g cur _ _ (0, 0) h3, by omega, h5, ?_, ?_⟩⟩
  · simp only [List.size_toArray, List.length_append, List.length_take, List.length_drop, Array.length_toList]; omega
  · have hl2 : (cur.toList.take (K.length * 3)).length = K.length * 3 := by rw [List.length_take, Array.length_toList (xs := cur)]; omega
    show List.take _ (cur.toList.take (K.length * 3) ++ zs ++ _) = _
    rw [List.append_assoc, List.take_left' hl2]; exact h7
def DelD (B : Nat) (vs : Value) (L : List Dfr) (w : World) (e : Ending) (w' : World) : Prop := ∃ v', e = .returned v' ∧ OwnD B w' v' L ∧ w.grownBy w' vs.ownBlock ∧ v'.ownBlock = vs.ownBlock
set_option maxRecDepth 100000 in
set_option maxHeartbeats 4000000 in
theorem dDelete_any (B : Nat) (vs : Value) (L : List Dfr) (i : Nat) (w : World) (hown : OwnD B w vs L) (hi : i < L.length) (hL : L.length ≤ 1000) (hB : B ≤ w.heap.size) :
    Calls Tryz.prog 93 #[vs, .int .i64 i, .int .i64 ((i : Int) + 1)] w (DelD B vs (L.take i ++ L.drop (i + 1)) w) := by
  rcases hown.2 with ⟨_, h0⟩ | ⟨g, cap, cur, rfl, hbg, hg, hle, hm, hcs, ht⟩
  · omega
  have hmm : cap ≤ 9223372036854775807 := by unfold maxLen at hm; omega
  obtain ⟨i0, hi0, hz0, hz1, hz2⟩ := info_parts infoDf
  have htl : (L.take i).length = i := by rw [List.length_take]; omega
  have HC : Hid (OwnD B w (.slice (some ⟨g, 0, none⟩) i cap) (L.take i)) := Lib.hid (by
    refine ⟨dfrCells_len _, .inr ⟨g, cap, cur, by rw [htl], hbg, hg, by omega, hm, hcs, ?_⟩⟩
    rw [htl]
    have h8 : cur.toList.take (i * 3) = (cur.toList.take (L.length * 3)).take (i * 3) := by rw [List.take_take]; congr 1; omega
    rw [h8, ht]
    conv => lhs; rw [← List.take_append_drop i L, dfrCells_app]
    exact List.take_left' (by rw [dfrCells_len, htl]))
  have HOC : Hid (∀ W : World, W.heap[g]? = w.heap[g]? → OwnD B W (.slice (some ⟨g, 0, none⟩) i cap) (L.take i)) := Lib.hid fun (W : World) (hW : W.heap[g]? = w.heap[g]?) => by
    have h := HC.out
    rcases h.2 with ⟨h0, _⟩ | ⟨g', cap', cur', h1, h2, h3, h4⟩
    · cases h0
    · simp only [Value.slice.injEq, Option.some.injEq, Addr.mk.injEq, and_true] at h1
      obtain ⟨rfl, _, rfl⟩ := h1
      exact ⟨h.1, .inr ⟨g, cap, cur', by rw [htl], h2, hW.trans h3, h4⟩⟩
  obtain ⟨N, hN⟩ : ∃ N, N = L.drop (i + 1) := ⟨_, rfl⟩
  have hNl : N.length = L.length - (i + 1) := by rw [hN, List.length_drop]
  have HS : Hid (∀ W : World, W.heap[g]? = w.heap[g]? → ∀ j v, (dfrCells N)[j]? = some v → W.cell? ((⟨g, (i + 1) * 3, none⟩ : Addr).add j) = some v) := Lib.hid fun (W : World) (hW : W.heap[g]? = w.heap[g]?) (j : Nat) (v : Value) hj => by
    rw [add_plain']
    have hc : w.cell? ⟨g, (i + 1) * 3 + j, none⟩ = some v := by
      rw [cell_of_row w g _ cur _ (0, 0) hg]
      have h1 : (dfrCells L)[(i + 1) * 3 + j]? = some v := by
        conv => lhs; rw [← List.take_append_drop (i + 1) L, dfrCells_app]
        have hl : (dfrCells (L.take (i + 1))).length = (i + 1) * 3 := by rw [dfrCells_len, List.length_take]; congr 1; omega
        rw [List.getElem?_append_right (by omega), hl, show (i + 1) * 3 + j - (i + 1) * 3 = j by omega, ← hN]; exact hj
      rw [← ht, List.getElem?_take] at h1
      split at h1
      · simpa using h1
      · cases h1
    rw [World.cell?_of_block (w := w) hW]; exact hc
  have HLN : Hid ((dfrCells N).length = N.length * 3) := Lib.hid (dfrCells_len N)
  have HHI := Lib.hid hi0; have HZ1 := Lib.hid hz1
  obtain ⟨m, hmN⟩ : ∃ m, m = L.length - (i + 1) := ⟨_, rfl⟩
  have hNm : N.length = m := by omega
  have HNM := Lib.hid hNm
  obtain ⟨n, hn⟩ : ∃ n, n = L.length := ⟨_, rfl⟩
  rw [← hn] at hi hL hle hmN
  rw [← hn]
  have HTL := Lib.hid htl
  have HAPP : Hid (L.take i ++ L.drop (i + 1) = L.take i ++ N) := Lib.hid (by rw [hN])
  clear hown hcs ht hm hg HC hN hNl hNm hi0 hz0 hz1 hz2 hn htl
  have e1 : ((i : Int) == (i : Int) + 1) = false := beq_eq_false_iff_ne.2 (by omega)
  have s1 : (0 : Int) ≤ (i : Int) + 1 := by omega
  have s2 : ((i : Int) + 1).toNat = i + 1 := by omega
  have s4 : (i : Int) + 1 ≤ (n : Int) := by omega
  have s5 : (i : Int) ≤ (i : Int) + 1 := by omega
  have s6 : (i : Int) ≤ (n : Int) := by omega
  have s7 : ¬ (cap = i) := by omega
  have s8 : (i : Int) ≤ (cap : Int) := by omega
  go_enter Tryz.func93, Tryz.ntmps93
  go_wp2_with fail
  go_still_tail 6, (by kernel_rfl)
  change wpList _ _ _ _ _ w.drew
  have HFIN : Hid (∀ w', OwnD B w' (.slice (some ⟨g, 0, none⟩) (i + m) cap) (L.take i ++ N) → w.grownBy w' (some g) → ∃ C, (∀ ty c, (Builtin.clear_ #[26] ty #[.slice (some ⟨g, (i + m) * 3, none⟩) 1 c]).run Tryz.prog w' = .ok (.tuple #[]) (w'.setRow g C)) ∧
      OwnD B (w'.setRow g C) (.slice (some ⟨g, 0, none⟩) (i + m) cap) (L.take i ++ N) ∧ w.grownBy (w'.setRow g C) (some g)) := Lib.hid fun w' h1 h2 => by
    obtain ⟨C, c1, c2, c3⟩ := ownD_clear (m := 1) h1 (by omega) (by omega)
    exact ⟨C, c1, c2, grown_trans_Dld h2 c3⟩
  have him : i + m < cap := by omega
  have HMN := Lib.hid hmN
  clear hmN
  have HQO : Hid (w.drew.ownsRow B 56 3 (.slice (some ⟨g, 0, none⟩) i cap) i (dfrCells (L.take i))) := Lib.hid (by have h := HOC.out w.drew rfl; unfold OwnD at h; rw [HTL.out] at h; exact h)
  have HQL : Hid ((dfrCells N).length = (n - (i + 1)) * 3) := Lib.hid (by rw [HLN.out, HNM.out, HMN.out])
  have hroom : i + (n - (i + 1)) ≤ cap := by omega
  have HQS := Lib.hid (HS.out w.drew rfl)
  have HQN : Hid (cap = i + 1 → ∀ (ad : Addr) (j : Nat) (u : Value), (dfrCells N)[j]? = some u → w.drew.cell? (ad.add j) = some u) := Lib.hid fun hcap ad j u hj => by
    have hjl := (List.getElem?_eq_some_iff.1 hj).1
    have := HQL.out; omega
  clear HS HOC
  by_cases hcap : cap = i + 1
  · obtain rfl : n = i + 1 := by omega
    subst hcap
    have HM0 : Hid (m = 0) := Lib.hid (by have := HMN.out; omega)
    have HNIL : Hid (N = []) := Lib.hid (List.eq_nil_of_length_eq_zero (by rw [HNM.out, HM0.out]))
    have HFI0 : Hid (∀ w', OwnD B w' (.slice (some ⟨g, 0, none⟩) i (i + 1)) (L.take i) → w.grownBy w' (some g) → ∃ C, (∀ (ty : TypeId) (c : Nat), (Builtin.clear_ #[26] ty #[.slice (some ⟨g, i * 3, none⟩) 1 c]).run Tryz.prog w' = .ok (.tuple #[]) (w'.setRow g C)) ∧
      OwnD B (w'.setRow g C) (.slice (some ⟨g, 0, none⟩) i (i + 1)) (L.take i) ∧ w.grownBy (w'.setRow g C) (some g)) := Lib.hid (by
        have h := HFIN.out
        rw [HM0.out, HNIL.out, Nat.add_zero, List.append_nil] at h
        exact h)
    clear HFIN him HQS HQL
    go_wp2_with (at_builtin; rw [if_pos rfl]; refine wpList_append_fits_any (o := ⟨some 26, _, _, _, _, _⟩) _ rfl (.tmp 22) (.tmp 25) 26 rfl B 56 i0 3 Tryz.underlying26 HHI.out HZ1.out g i (i + 1) (dfrCells (L.take i)) rfl HQO.out (some ⟨g, 0, none⟩) _ _ [] rfl (by simp) (fun h => by cases h) (fun ad e j u hj => by simp at hj) (fun u hu => by simp at hu) (by omega) ?_)
    intro w' h1 h2
    obtain ⟨C, c1, c2, c3⟩ := HFI0.out w' (show OwnD B w' _ _ by unfold OwnD; rw [HTL.out]; simpa using h1) ⟨h2.os, h2.tape, h2.output, h2.size, h2.block⟩
    have HC2 := Lib.hid c2; have HC3 := Lib.hid c3
    have t3 : i + 1 - i = 1 := by omega
    clear h1 h2 c2 c3
    go_wp2
    go_ret
    exact ⟨_, rfl, by rw [HAPP.out, HNIL.out, List.append_nil]; exact HC2.out, HC3.out, rfl⟩
  · go_wp2_with (at_builtin; rw [if_neg hcap]; refine wpList_append_fits_any (o := ⟨some 26, _, _, _, _, _⟩) _ rfl (.tmp 22) (.tmp 25) 26 rfl B 56 i0 3 Tryz.underlying26 HHI.out HZ1.out g i cap (dfrCells (L.take i)) rfl HQO.out (some ⟨g, (i + 1) * 3, none⟩) (n - (i + 1)) (cap - (i + 1)) (dfrCells N) rfl HQL.out (fun h => by cases h) (fun ad e j u hj => by cases e; exact HQS.out j u hj) (fun u hu => dfrCells_one hu) hroom ?_)
    intro w' h1 h2
    rw [← HMN.out] at h1
    obtain ⟨C, c1, c2, c3⟩ := HFIN.out w' (show OwnD B w' _ _ by unfold OwnD; rw [dfrCells_app, List.length_append, HTL.out, HNM.out]; exact h1) ⟨h2.os, h2.tape, h2.output, h2.size, h2.block⟩
    have HC2 := Lib.hid c2; have HC3 := Lib.hid c3
    have t1 : n - (i + 1) = m := HMN.out.symm
    have t3 : n - (i + m) = 1 := by have := HMN.out; omega
    have t4 : ((i : Int) + ((n - (i + 1) : Nat) : Int)) = ((i + m : Nat) : Int) := by rw [t1]; omega
    have t5 : ((i + m : Nat) : Int) ≤ (n : Int) := by have := HMN.out; omega
    clear h1 h2 c2 c3
    rw [t1]
    go_wp2
    go_ret
    exact ⟨_, rfl, by rw [HAPP.out]; exact HC2.out, HC3.out, rfl⟩
section
variable {St : Dfr → Dfl → Prop}
theorem RowsS.take : ∀ {R : List Dfr} {L : List Dfl} (h : RowsS St R L) (k : Nat), RowsS St (R.take k) (L.take k)
  | [], [], _, k => by simp [RowsS]
  | _ :: _, _ :: _, h, 0 => trivial
  | _ :: _, _ :: _, h, k + 1 => ⟨h.1, RowsS.take h.2 k⟩
  | [], _ :: _, h, _ => h.elim
  | _ :: _, [], h, _ => h.elim
theorem RowsS.drop : ∀ {R : List Dfr} {L : List Dfl} (h : RowsS St R L) (k : Nat), RowsS St (R.drop k) (L.drop k)
  | [], [], _, k => by simp [RowsS]
  | _ :: _, _ :: _, h, 0 => h
  | _ :: _, _ :: _, h, k + 1 => RowsS.drop h.2 k
  | [], _ :: _, h, _ => h.elim
  | _ :: _, [], h, _ => h.elim
theorem RowsS.app : ∀ {R R' : List Dfr} {L L' : List Dfl} (h : RowsS St R L) (h' : RowsS St R' L'), RowsS St (R ++ R') (L ++ L')
  | [], _, [], _, _, h' => h'
  | _ :: _, _, _ :: _, _, h, h' => ⟨h.1, RowsS.app h.2 h'⟩
  | [], _, _ :: _, _, h, _ => h.elim
  | _ :: _, _, [], _, h, _ => h.elim
theorem RowsS.names (hn : ∀ r x, St r x → r.n = x.n) : ∀ {R : List Dfr} {L : List Dfl} (h : RowsS St R L), R.map Dfr.t = L.map Dfl.t
  | [], [], _ => rfl
  | _ :: _, _ :: _, h => by
    rw [List.map_cons, List.map_cons, RowsS.names hn h.2]
    congr 1
    unfold Dfr.t Dfl.t; rw [hn _ _ h.1]
  | [], _ :: _, h => h.elim
  | _ :: _, [], h => h.elim
end
def cntF (L : List Dfl) (t : Txt) : Nat := (L.takeWhile fun y => decide (y.t < t)).length
theorem cntF_le (L : List Dfl) (t : Txt) : cntF L t ≤ L.length := (List.takeWhile_sublist _).length_le
theorem takeW_all {t : Txt} : ∀ {L : List Dfl} (x : Dfl), x ∈ L.takeWhile (fun y => decide (y.t < t)) → x.t < t
  | [], x, h => by simp at h
  | y :: L, x, h => by
    by_cases hy : y.t < t
    · rw [List.takeWhile_cons_of_pos (by simpa using hy)] at h
      rcases List.mem_cons.1 h with rfl | h
      · exact hy
      · exact takeW_all x h
    · rw [List.takeWhile_cons_of_neg (by simpa using hy)] at h; cases h
theorem cntF_ahead {L : List Dfl} {t : Txt} : ∀ x ∈ L.take (cntF L t), x.t < t := by
  intro x hx
  have e : L.take (cntF L t) = L.takeWhile fun y => decide (y.t < t) := by
    unfold cntF
    conv => lhs; rw [← List.takeWhile_append_dropWhile (p := fun y => decide (y.t < t)) (l := L)]
    rw [List.takeWhile_append_dropWhile]
    exact (List.prefix_iff_eq_take.1 (List.takeWhile_prefix _)).symm
  rw [e] at hx
  exact takeW_all _ hx
theorem cntF_behind {L : List Dfl} {t : Txt} (h : cntF L t < L.length) : ¬ L[cntF L t].t < t := by
  induction L with
  | nil => simp at h
  | cons x L ih =>
    by_cases hx : x.t < t
    · have e : cntF (x :: L) t = cntF L t + 1 := by unfold cntF; simp [hx]
      have h' : cntF L t < L.length := by rw [e] at h; simpa using h
      simp only [e, List.getElem_cons_succ]
      exact ih h'
    · have e : cntF (x :: L) t = 0 := by unfold cntF; simp [hx]
      simp only [e, List.getElem_cons_zero]; exact hx
theorem cnt_names {R : List Dfr} {L : List Dfl} (h : R.map Dfr.t = L.map Dfl.t) (t : Txt) : cntR R t = cntF L t := by
  have e1 : cntR R t = ((R.map Dfr.t).takeWhile fun y => decide (y < t)).length := by unfold cntR; rw [List.takeWhile_map, List.length_map]; rfl
  have e2 : cntF L t = ((L.map Dfl.t).takeWhile fun y => decide (y < t)).length := by unfold cntF; rw [List.takeWhile_map, List.length_map]; rfl
  rw [e1, e2, h]
theorem get_names : ∀ {R : List Dfr} {L : List Dfl} (h : R.map Dfr.t = L.map Dfl.t) (t : Txt), (getR R t).isSome = (getF L t).isSome
  | [], [], _, _ => rfl
  | r :: R, x :: L, h, t => by
    rw [List.map_cons, List.map_cons] at h
    obtain ⟨h1, h2⟩ := List.cons.inj h
    have ih := get_names h2 t
    unfold getR getF at ih ⊢
    by_cases e : r.t = t
    · rw [List.find?_cons_of_pos (by simpa using e), List.find?_cons_of_pos (by rw [← h1]; simpa using e)]; rfl
    · rw [List.find?_cons_of_neg (by simpa using e), List.find?_cons_of_neg (by rw [← h1]; simpa using e)]; exact ih
  | [], _ :: _, h, _ => by simp at h
  | _ :: _, [], h, _ => by simp at h
theorem rise_names {R : List Dfr} {L : List Dfl} (h : R.map Dfr.t = L.map Dfl.t) (hr : L.Pairwise fun x y => x.t < y.t) : RiseR R := by
  have : (R.map Dfr.t).Pairwise (· < ·) := by rw [h]; exact List.pairwise_map.2 hr
  exact List.pairwise_map.1 this
theorem getF_cnt {L : List Dfl} (hr : L.Pairwise fun x y => x.t < y.t) (t : Txt) : (∃ h : cntF L t < L.length, L[cntF L t].t = t ∧ getF L t = some L[cntF L t]) ∨ (getF L t = none ∧ ∀ h : cntF L t < L.length, t < L[cntF L t].t) := by
  cases hg : getF L t with
  | none =>
    refine .inr ⟨rfl, fun h => ?_⟩
    have h1 := cntF_behind h
    have h2 := getF_none.1 hg _ (List.getElem_mem h)
    exact Classical.byContradiction fun c => h2 (t_tri _ _ h1 c)
  | some f =>
    obtain ⟨h1, h2⟩ := (getF_some hr).1 hg
    obtain ⟨i, hi, rfl⟩ := List.getElem_of_mem h1
    have hic : i = cntF L t := by
      rcases Nat.lt_trichotomy i (cntF L t) with c | c | c
      · have hm : L[i] ∈ L.take (cntF L t) := List.mem_take_iff_getElem.2 ⟨i, by omega, rfl⟩
        have := cntF_ahead _ hm
        rw [h2] at this; exact absurd this (t_irrefl _)
      · exact c
      · have hl : cntF L t < L.length := by omega
        have h3 := List.pairwise_iff_getElem.1 hr _ _ hl hi c
        rw [h2] at h3; exact absurd h3 (cntF_behind hl)
    subst hic
    exact .inl ⟨hi, h2, rfl⟩
theorem lessF_at {L : List Dfl} (hr : L.Pairwise fun x y => x.t < y.t) {k : Nat} (hk : k < L.length) {t : Txt} (ht : L[k].t = t) : lessF L t = L.take k ++ L.drop (k + 1) := by
  have e : L = L.take k ++ L[k] :: L.drop (k + 1) := by rw [List.getElem_cons_drop, List.take_append_drop]
  have hp := hr
  rw [e, List.pairwise_append] at hp
  obtain ⟨_, h2, h3⟩ := hp
  obtain ⟨h4, _⟩ := List.pairwise_cons.1 h2
  obtain ⟨x, hx⟩ : ∃ x, x = L[k] := ⟨_, rfl⟩
  rw [← hx] at e h3 h4 ht
  subst ht
  unfold lessF
  conv => lhs; rw [e]
  rw [List.filter_append, List.filter_cons_of_neg (by simp), List.filter_eq_self.2, List.filter_eq_self.2]
  · intro y hy
    simp only [decide_eq_true_eq]
    exact fun c => t_irrefl y.t (by have := h4 y hy; rwa [← c] at this)
  · intro y hy
    simp only [decide_eq_true_eq]
    exact fun c => t_irrefl y.t (by have := h3 y hy _ (List.mem_cons_self ..); rwa [← c] at this)
theorem withF_at {L : List Dfl} (hr : L.Pairwise fun x y => x.t < y.t) {f : Dfl} (hn : getF L f.t = none) : withF L f = L.take (cntF L f.t) ++ f :: L.drop (cntF L f.t) := by
  conv => lhs; rw [← List.take_append_drop (cntF L f.t) L]
  rw [withF_app cntF_ahead]
  congr 1
  rcases getF_cnt hr f.t with ⟨h, _, h2⟩ | ⟨_, h⟩
  · rw [h2] at hn; cases hn
  · by_cases hl : cntF L f.t < L.length
    · rw [← List.getElem_cons_drop hl]
      have h1 := h hl
      show (if _ then _ else if _ then _ else _) = _
      rw [if_neg (t_asymm h1), if_neg (fun c => t_irrefl f.t (by rwa [c] at h1))]
    · rw [List.drop_of_length_le (by omega)]; rfl
def RowP (B : Nat) (w : World) (r : Dfr) (x : Dfl) : Prop := r.n = x.n ∧ r.d = x.d ∧ OwnP15 B w (.slice r.a r.z r.c) x.ops
theorem RowP.stays {B : Nat} {w w' : World} {r : Dfr} {x : Dfl} (h : RowP B w r x) (hb : Below w.heap.size w w') : RowP B w' r x := ⟨h.1, h.2.1, h.2.2.stays hb⟩
theorem RowP.f {B : Nat} {w : World} {r : Dfr} {x : Dfl} (h : RowP B w r x) : RowF w r x := ⟨h.1, h.2.1, h.2.2.is⟩
theorem RowP.nil (B : Nat) (w : World) (n d : ByteArray) : RowP B w ⟨n, d, none, 0, 0⟩ ⟨n, d, []⟩ := ⟨rfl, rfl, ownP15_nil _ _⟩
theorem RowP.turn {B : Nat} {w w' : World} {r : Dfr} {x : Dfl} {row : Option Nat} (h : RowP B w r x) (hg : w.grownBy w' row) (hr : ∀ g, row = some g → ∃ xs T, Row w g xs T ∧ T ≠ 59) : RowP B w' r x :=
  ⟨h.1, h.2.1, h.2.2.grown hg (by
    cases hv : (Value.slice r.a r.z r.c).ownBlock with
    | none => exact .inl rfl
    | some k =>
      refine .inr fun e => ?_
      obtain ⟨xs, T, h1, h2⟩ := hr k e.symm
      obtain ⟨ys, h3⟩ := h.2.2.row hv
      unfold Row at h3
      rw [show w.heap[k]? = _ from h1] at h3
      cases h3; exact h2 rfl)⟩
def obk (r : Dfr) : Option Nat := (Value.slice r.a r.z r.c).ownBlock
def SepR (x y : Dfr) : Prop := ∀ g, obk x = some g → obk y ≠ some g
theorem SepR.symm {x y : Dfr} (h : SepR x y) : SepR y x := fun g h1 h2 => h g h2 h1
theorem sep_less {R : List Dfr} {k : Nat} (h : R.Pairwise SepR) (hk : k < R.length) : (R.take k ++ R.drop (k + 1)).Pairwise SepR ∧ ∀ y ∈ R.take k ++ R.drop (k + 1), SepR R[k] y := by
  have e : R = R.take k ++ R[k] :: R.drop (k + 1) := by rw [List.getElem_cons_drop, List.take_append_drop]
  obtain ⟨r, hr⟩ : ∃ r, r = R[k] := ⟨_, rfl⟩
  rw [← hr] at e ⊢
  rw [e, List.pairwise_append] at h
  obtain ⟨h1, h2, h3⟩ := h
  obtain ⟨h4, h5⟩ := List.pairwise_cons.1 h2
  refine ⟨List.pairwise_append.2 ⟨h1, h5, fun x hx y hy => h3 x hx y (List.mem_cons_of_mem _ hy)⟩, fun y hy => ?_⟩
  rcases List.mem_append.1 hy with hy | hy
  · exact (h3 y hy r (List.mem_cons_self ..)).symm
  · exact h4 y hy
theorem sep_with {R : List Dfr} {r : Dfr} (k : Nat) (h : R.Pairwise SepR) (hr : ∀ y ∈ R, SepR r y) : (R.take k ++ r :: R.drop k).Pairwise SepR := by
  have h0 := h
  rw [← List.take_append_drop k R, List.pairwise_append] at h0
  obtain ⟨h1, h2, h3⟩ := h0
  refine List.pairwise_append.2 ⟨h1, List.pairwise_cons.2 ⟨fun y hy => hr y (List.mem_of_mem_drop hy), h2⟩, fun x hx y hy => ?_⟩
  rcases List.mem_cons.1 hy with rfl | hy
  · exact (hr x (List.mem_of_mem_take hx)).symm
  · exact h3 x hx y hy
structure Mch (B kb : Nat) (w : World) (v : Value) (R : List Dfr) (d : Dsk) : Prop where
  row : Row w kb #[v, .bool d.off, .int .i64 d.fuse] 105
  own : OwnD B w v R
  rows : RowsS (RowP B w) R d.fs
  from_ : B ≤ kb
  sep : R.Pairwise SepR
theorem OwnD.row {B : Nat} {w : World} {v : Value} {L : List Dfr} (h : OwnD B w v L) {g : Nat} (hg : v.ownBlock = some g) : ∃ xs, Row w g xs 56 := by
  rcases h.2 with ⟨rfl, _⟩ | ⟨g', cap, cur, rfl, _, h5, _⟩
  · cases hg
  · cases hg; exact ⟨_, h5⟩
theorem OwnD.apart {B : Nat} {w : World} {v : Value} {L : List Dfr} (h : OwnD B w v L) {A : Nat} {xs : Array Value} {T : TypeId} (hA : Row w A xs T) (hT : T ≠ 56) : v.ownBlock ≠ some A := fun e => by
  obtain ⟨ys, hy⟩ := h.row e
  unfold Row at hy
  rw [show w.heap[A]? = _ from hA] at hy
  cases hy; exact hT rfl
section
variable {B kb : Nat} {w w' : World} {v : Value} {R : List Dfr} {d : Dsk}
theorem Mch.stays (h : Mch B kb w v R d) (hb : Below w.heap.size w w') : Mch B kb w' v R d := ⟨h.row.step hb, h.own.stays hb, h.rows.imp fun r x h => h.stays hb, h.from_, h.sep⟩
theorem Mch.names (h : Mch B kb w v R d) : R.map Dfr.t = d.fs.map Dfl.t := h.rows.names fun r x h => h.1
theorem Mch.apart (h : Mch B kb w v R d) : v.ownBlock ≠ some kb := h.own.apart h.row (by decide)
theorem Mch.grown (h : Mch B kb w v R d) (hg : w.grownBy w' v.ownBlock) : Row w' kb #[v, .bool d.off, .int .i64 d.fuse] 105 ∧ ∀ r x, RowP B w r x → RowP B w' r x :=
  ⟨by unfold Row; rw [hg.block kb h.row.lt (fun e => h.apart e.symm)]; exact h.row, fun r x hr => hr.turn hg fun g e => by
    obtain ⟨xs, hx⟩ := h.own.row e
    exact ⟨xs, _, hx, by decide⟩⟩
theorem Mch.below (h : OwnD B w v R) (hg : w.grownBy w' v.ownBlock) (hB : B ≤ w.heap.size) : Below B w w' := (Below.refl B w).grown hg hB (fun j hj => (World.ownsRow.lt h j hj).1)
theorem Mch.lt (h : Mch B kb w v R d) : kb < w.heap.size := h.row.lt
theorem Mch.cell (h : Mch B kb w v R d) : w.cell? ⟨kb, 0, none⟩ = some v ∧ w.cell? ⟨kb, 1, none⟩ = some (.bool d.off) ∧ w.cell? ⟨kb, 2, none⟩ = some (.int .i64 d.fuse) ∧ ∀ i, w.frozen? ⟨kb, i, none⟩ = false := by
  have p0 := h.row.cell 0; have p1 := h.row.cell 1; have p2 := h.row.cell 2
  simp only [List.getElem?_toArray, List.getElem?_cons_zero, List.getElem?_cons_succ] at p0 p1 p2
  exact ⟨p0, p1, p2, fun i => h.row.free i⟩
theorem grownBy_set_Dlh (w : World) (b i : Nat) (u : Value) : w.grownBy (w.setCell ⟨b, i, none⟩ u) (some b) :=
  ⟨rfl, rfl, rfl, by simp [World.setCell], fun k hk hr => Below.heap_setCell _ _ _ _ (fun e => hr (by rw [e]))⟩
theorem Mch.put0 {v' : Value} {R' : List Dfr} {fs : List Dfl} (h1 : Row w kb #[v, .bool d.off, .int .i64 d.fuse] 105) (hB : B ≤ kb) (h2 : OwnD B w v' R') (h3 : RowsS (RowP B w) R' fs) (h4 : R'.Pairwise SepR) : Mch B kb (w.setCell ⟨kb, 0, none⟩ v') v' R' ⟨fs, d.off, d.fuse⟩ := by
  have hg := grownBy_set_Dlh w kb 0 v'
  have ha := h2.apart h1 (by decide)
  refine ⟨by have := h1.set 0 v'; exact this, World.ownsRow.kept h2 hg (by cases hv : v'.ownBlock with | none => exact .inl rfl | some k => exact .inr (by rw [← hv]; exact ha)), h3.imp fun r x hr => hr.turn hg fun g e => by cases e; exact ⟨_, _, h1, by decide⟩, hB, h4⟩
theorem Mch.turnRow {xs : Array Value} (h : Mch B kb w v R d) (i : Nat) (u : Value) {off : Bool} {fuse : Int} (hx : Row (w.setCell ⟨kb, i, none⟩ u) kb #[v, .bool off, .int .i64 fuse] 105) : Mch B kb (w.setCell ⟨kb, i, none⟩ u) v R ⟨d.fs, off, fuse⟩ := by
  have hg := grownBy_set_Dlh w kb i u
  refine ⟨hx, World.ownsRow.kept h.own hg (by cases hv : v.ownBlock with | none => exact .inl rfl | some k => exact .inr (by rw [← hv]; exact h.apart)), h.rows.imp fun r x hr => hr.turn hg fun g e => by cases e; exact ⟨_, _, h.row, by decide⟩, h.from_, h.sep⟩
end
def KeepT (w w' : World) : Prop := ∀ (b : Nat) (xs : Array Value) (T : TypeId), T ≠ 105 → T ≠ 56 → T ≠ 59 → Row w b xs T → Row w' b xs T
theorem KeepT.trans {a b c : World} (h : KeepT a b) (k : KeepT b c) : KeepT a c := fun i xs T h1 h2 h3 h4 => k i xs T h1 h2 h3 (h i xs T h1 h2 h3 h4)
theorem KeepT.below {w w' : World} (h : Below w.heap.size w w') : KeepT w w' := fun _ _ _ _ _ _ h4 => h4.step h
theorem KeepT.grown {w w' : World} {row : Option Nat} (h : w.grownBy w' row) (hr : ∀ g, row = some g → ∃ xs T, Row w g xs T ∧ (T = 105 ∨ T = 56 ∨ T = 59)) : KeepT w w' := fun b xs T h1 h2 h3 h4 => by
  unfold Row
  rw [h.block b h4.lt (fun e => by
    obtain ⟨ys, T', h5, h6⟩ := hr b e.symm
    unfold Row at h4 h5
    rw [h5] at h4; cases h4
    rcases h6 with e | e | e
    · exact h1 e
    · exact h2 e
    · exact h3 e)]
  exact h4
theorem KeepT.set {w : World} {b : Nat} {xs : Array Value} {T : TypeId} (h : Row w b xs T) (hT : T = 105 ∨ T = 56 ∨ T = 59) (i : Nat) (u : Value) : KeepT w (w.setCell ⟨b, i, none⟩ u) :=
  KeepT.grown (grownBy_set_Dlh w b i u) fun g e => by cases e; exact ⟨_, _, h, hT⟩
theorem Mch.frame {B kb : Nat} {w w' : World} {v : Value} {R : List Dfr} {d : Dsk} (h : Mch B kb w v R d) (hf : ∀ b, b < w.heap.size → b ≠ kb → v.ownBlock ≠ some b → w'.heap[b]? = w.heap[b]?) : KeepT w w' := fun b xs T h1 h2 h3 h4 => by
  unfold Row
  rw [hf b h4.lt (fun e => by
    subst e
    have h5 := h.row
    unfold Row at h4 h5
    rw [h5] at h4; cases h4; exact h1 rfl) (h.own.apart h4 h2)]
  exact h4
set_option maxRecDepth 100000 in
theorem place_any_Dlh {B kb : Nat} {v : Value} {R : List Dfr} {d : Dsk} (s : ByteArray) (w : World) (h : IsRws w v R) (hc : w.cell? ⟨kb, 0, none⟩ = some v) (hn : R.map Dfr.t = d.fs.map Dfl.t) (hr : d.fs.Pairwise fun x y => x.t < y.t) (hl : R.length ≤ 1000000) :
    Calls Tryz.prog 73 #[.pointer (some ⟨kb, 0, none⟩), .string s] w fun e w' => e = .returned (.tuple #[.int .i64 (cntF d.fs s.data.toList), .bool (getF d.fs s.data.toList).isSome]) ∧ Below w.heap.size w w' := by
  have C := Lib.hid (dSearch_any v R s w h (rise_names hn hr) hl)
  rw [cnt_names hn, get_names hn] at C
  go_enter Tryz.func73, Tryz.ntmps73
  go_wp2_with fail
  refine C.out.mono ?_
  rintro e w1 ⟨rfl, hb⟩
  go_wp2
  go_ret2
  exact ⟨rfl, hb⟩
set_option maxRecDepth 100000 in
theorem missing_any {B kb : Nat} {v : Value} {R : List Dfr} {d : Dsk} (s : ByteArray) (w : World) (h : Mch B kb w v R d) (hr : d.fs.Pairwise fun x y => x.t < y.t) (hl : d.fs.length ≤ 1000000) :
    Calls Tryz.prog 68 #[.pointer (some ⟨kb, 0, none⟩), .string s] w fun e w' => e = .returned (.int .i64 (if (getF d.fs s.data.toList).isSome then 0 else 5)) ∧ Below w.heap.size w w' := by
  have C := Lib.hid (place_any_Dlh (B := B) s w h.own.rws h.cell.1 h.names hr (by rw [h.rows.len]; exact hl))
  rcases hg : (getF d.fs s.data.toList).isSome with _ | _
  · rw [hg] at C
    clear hg
    go_enter Tryz.func68, Tryz.ntmps68
    go_wp2_with fail
    refine C.out.mono ?_
    rintro e w1 ⟨rfl, hb⟩
    go_wp2
    go_ret
    exact ⟨rfl, hb⟩
  · rw [hg] at C
    clear hg
    go_enter Tryz.func68, Tryz.ntmps68
    go_wp2_with fail
    refine C.out.mono ?_
    rintro e w1 ⟨rfl, hb⟩
    go_wp2
    go_ret
    exact ⟨rfl, hb⟩
def TakeR (B kb : Nat) (v : Value) (R : List Dfr) (d : Dsk) (t : Txt) (w : World) (e : Ending) (w' : World) : Prop := ∃ r v' R', e = .returned (dfrV r) ∧ Mch B kb w' v' R' ⟨lessF d.fs t, d.off, d.fuse⟩ ∧ RowP B w' r ((getF d.fs t).getD ⟨⟨#[]⟩, ⟨#[]⟩, []⟩) ∧ (∀ y ∈ R', SepR r y) ∧ Below B w w' ∧ (∀ y ∈ R', y ∈ R) ∧ v'.ownBlock = v.ownBlock ∧ ∀ b, b < w.heap.size → b ≠ kb → v.ownBlock ≠ some b → w'.heap[b]? = w.heap[b]?
theorem lessF_none {L : List Dfl} {t : Txt} (h : getF L t = none) : lessF L t = L := by
  unfold lessF
  exact List.filter_eq_self.2 fun x hx => by simpa using getF_none.1 h x hx
section
variable {B kb b : Nat} {w : World} {v : Value} {R : List Dfr} {d : Dsk} {xs : Array Value}
theorem Mch.box (h : Mch B kb w v R d) (hb : Row w b xs 56) (hne : v.ownBlock ≠ some b) (i : Nat) (u : Value) : Mch B kb (w.setCell ⟨b, i, none⟩ u) v R d := by
  have hg := grownBy_set_Dlh w b i u
  have hkb : kb ≠ b := fun e => by
    subst e
    have h1 := h.row
    unfold Row at h1 hb
    rw [h1] at hb; cases hb
  refine ⟨h.row.other ⟨b, i, none⟩ u hkb, World.ownsRow.kept h.own hg (by cases hv : v.ownBlock with | none => exact .inl rfl | some k => exact .inr (by rw [← hv]; exact hne)), h.rows.imp fun r x hr => hr.turn hg fun g e => by cases e; exact ⟨_, _, hb, by decide⟩, h.from_, h.sep⟩
theorem RowP.box {r : Dfr} {x : Dfl} (h : RowP B w r x) (hb : Row w b xs 56) (i : Nat) (u : Value) : RowP B (w.setCell ⟨b, i, none⟩ u) r x := h.turn (grownBy_set_Dlh w b i u) fun g e => by cases e; exact ⟨_, _, hb, by decide⟩
def put3 (W : World) (b : Nat) (x : Dfr) : World := ((W.setCell ⟨b, 0, none⟩ (.string x.n)).setCell ⟨b, 1, none⟩ (.string x.d)).setCell ⟨b, 2, none⟩ (.slice x.a x.z x.c)
theorem row_put3 {y1 y2 y3 : Value} (hb : Row w b #[y1, y2, y3] 56) (x : Dfr) : Row (put3 w b x) b #[.string x.n, .string x.d, .slice x.a x.z x.c] 56 := by
  have := ((hb.set 0 (.string x.n)).set 1 (.string x.d)).set 2 (.slice x.a x.z x.c)
  exact this
theorem Mch.put3 {y1 y2 y3 : Value} (h : Mch B kb w v R d) (hb : Row w b #[y1, y2, y3] 56) (hne : v.ownBlock ≠ some b) (x : Dfr) : Mch B kb (put3 w b x) v R d :=
  ((h.box hb hne 0 _).box (hb.set 0 _) hne 1 _).box ((hb.set 0 _).set 1 _) hne 2 _
theorem RowP.put3 {y1 y2 y3 : Value} {r : Dfr} {z : Dfl} (h : RowP B w r z) (hb : Row w b #[y1, y2, y3] 56) (x : Dfr) : RowP B (put3 w b x) r z :=
  ((h.box hb 0 _).box (hb.set 0 _) 1 _).box ((hb.set 0 _).set 1 _) 2 _
theorem below_put3 {W0 : World} (h : Below B W0 w) (hb : B ≤ b) (x : Dfr) : Below B W0 (put3 w b x) := ((h.setCell (p := ⟨b, 0, none⟩) hb _).setCell (p := ⟨b, 1, none⟩) hb _).setCell (p := ⟨b, 2, none⟩) hb _
theorem row_cells {y1 y2 y3 : Value} (hb : Row w b #[y1, y2, y3] 56) : w.cell? ⟨b, 0, none⟩ = some y1 ∧ w.cell? ⟨b, 1, none⟩ = some y2 ∧ w.cell? ⟨b, 2, none⟩ = some y3 ∧ ∀ i, w.frozen? ⟨b, i, none⟩ = false := by
  have p0 := hb.cell 0; have p1 := hb.cell 1; have p2 := hb.cell 2
  simp only [List.getElem?_toArray, List.getElem?_cons_zero, List.getElem?_cons_succ] at p0 p1 p2
  exact ⟨p0, p1, p2, fun i => hb.free i⟩
end
set_option maxRecDepth 100000 in
set_option maxHeartbeats 4000000 in
theorem take_any (B kb : Nat) (v : Value) (R : List Dfr) (d : Dsk) (s : ByteArray) (w : World) (h : Mch B kb w v R d) (hB : B ≤ w.heap.size) (hr : d.fs.Pairwise fun x y => x.t < y.t) (hl : d.fs.length ≤ 1000) :
    Calls Tryz.prog 72 #[.pointer (some ⟨kb, 0, none⟩), .string s] w (TakeR B kb v R d s.data.toList w) := by
  obtain ⟨V, hV⟩ : ∃ V, V = w.alloc (.cells #[.string ⟨#[]⟩, .string ⟨#[]⟩, .slice none 0 0] 56) := ⟨_, rfl⟩
  have hbV : Below w.heap.size w V := by rw [hV]; exact (Below.refl _ _).alloc (Nat.le_refl _) _
  have hRb : Row V w.heap.size #[.string ⟨#[]⟩, .string ⟨#[]⟩, .slice none 0 0] 56 := by rw [hV]; exact Row.made _ _ _
  have hM := h.stays hbV
  have HV := Lib.hid hV; have HM := Lib.hid hM; have HRB := Lib.hid hRb
  have HBV : Hid (Below B w V) := Lib.hid (hbV.mono hB)
  have hlR : R.length = d.fs.length := h.rows.len
  have C1 := Lib.hid (place_any_Dlh (B := B) s V hM.own.rws hM.cell.1 hM.names hr (by rw [hlR]; omega))
  have HAT := Lib.hid (getF_cnt hr s.data.toList)
  have HLE := Lib.hid (cntF_le d.fs s.data.toList)
  obtain ⟨k, hk⟩ : ∃ k, k = cntF d.fs s.data.toList := ⟨_, rfl⟩
  rw [← hk] at C1 HLE
  have HK := Lib.hid hk
  have hBV : B ≤ V.heap.size := Nat.le_trans hB hbV.size
  have HNE : Hid (v.ownBlock ≠ some w.heap.size) := Lib.hid fun e => by have := (World.ownsRow.lt h.own _ e).2; omega
  have HBW := Lib.hid hbV
  clear hV hbV hRb hM h hk
  rcases hg : getF d.fs s.data.toList with _ | x
  · have HL : Hid (lessF d.fs s.data.toList = d.fs) := Lib.hid (lessF_none hg)
    rw [hg] at C1
    have HG := Lib.hid hg
    clear hg
    go_enter Tryz.func72, Tryz.ntmps72
    go_wp2_with fail
    rw [← HV.out]
    go_wp2_with fail
    refine C1.out.mono ?_
    rintro e w2 ⟨rfl, hb2⟩
    have HM2 := Lib.hid (HM.out.stays hb2)
    have HB2 := Lib.hid (HBV.out.trans (hb2.mono hBV))
    have HR2 := Lib.hid (HRB.out.step hb2)
    obtain ⟨r0, r1, r2, fz⟩ := row_cells HR2.out
    have hlw : w.heap.size < w2.heap.size := HR2.out.lt
    have HFB : Hid (∀ b, b < w.heap.size → w2.heap[b]? = w.heap[b]?) := Lib.hid fun b h1 => (HBW.out.trans (hb2.mono HBW.out.size)).block b h1
    clear hb2
    have HR3 := Lib.hid (row_put3 HR2.out zeroDfr)
    have HM3 := Lib.hid (HM2.out.put3 HR2.out HNE.out zeroDfr)
    have HB3 := Lib.hid (below_put3 HB2.out hB zeroDfr)
    have HFR : Hid (∀ b, b < w.heap.size → b ≠ kb → v.ownBlock ≠ some b → (put3 w2 w.heap.size zeroDfr).heap[b]? = w.heap[b]?) := Lib.hid fun b h1 _ _ => by
      unfold put3
      rw [Below.heap_setCell _ _ _ b (by simp; omega), Below.heap_setCell _ _ _ b (by simp; omega), Below.heap_setCell _ _ _ b (by simp; omega), HFB.out b h1]
    unfold put3 zeroDfr at HR3 HM3 HB3 HFR
    go_wp2
    obtain ⟨r0', r1', r2', _⟩ := row_cells HR3.out
    exact bodyPost_ret (v := dfrV zeroDfr) (by unfold zeroDfr; simp [results, Tryz.results72, go_sem, r0', r1', r2']) rfl ⟨zeroDfr, v, R, rfl, by rw [HL.out]; exact HM3.out, by rw [HG.out]; exact RowP.nil _ _ _ _, (fun y _ g e => by cases e), HB3.out, fun y hy => hy, rfl, HFR.out⟩
  · obtain ⟨hkl, hkt, hkg⟩ : ∃ h : k < d.fs.length, d.fs[k].t = s.data.toList ∧ getF d.fs s.data.toList = some d.fs[k] := by
      rcases HAT.out with ⟨h1, h2, h3⟩ | ⟨h1, _⟩
      · rw [← HK.out] at h1
        refine ⟨h1, ?_, ?_⟩
        · simp only [HK.out]; exact h2
        · simp only [HK.out]; exact h3
      · rw [hg] at h1; cases h1
    have HLE2 : Hid (lessF d.fs s.data.toList = d.fs.take k ++ d.fs.drop (k + 1)) := Lib.hid (lessF_at hr hkl hkt)
    have hkR : k < R.length := by omega
    have HX : Hid ((getF d.fs s.data.toList).getD ⟨⟨#[]⟩, ⟨#[]⟩, []⟩ = d.fs[k]) := Lib.hid (by rw [hkg]; rfl)
    have HRK : Hid (∀ W, Below V.heap.size V W → RowP B W (R[k]'hkR) (d.fs[k]'hkl)) := Lib.hid fun W hW => (HM.out.rows.get k hkR hkl).stays hW
    have HRW : Hid (∀ W, Below V.heap.size V W → IsRws W v R) := Lib.hid fun W hW => HM.out.own.rws.stays hW
    have HRS : Hid (∀ St, RowsS St R d.fs → RowsS St (R.take k ++ R.drop (k + 1)) (d.fs.take k ++ d.fs.drop (k + 1))) := Lib.hid fun St h => (h.take k).app (h.drop (k + 1))
    have CD := Lib.hid (fun W (hO : OwnD B W v R) (hBW : B ≤ W.heap.size) => dDelete_any B v R k W hO hkR (by omega) hBW)
    rw [hg] at C1
    clear hg hkg hkt HAT
    have HLR := Lib.hid hlR
    clear hlR
    obtain ⟨y, hy⟩ : ∃ y, y = R[k]'hkR := ⟨_, rfl⟩
    rw [← hy] at HRK
    have HY := Lib.hid hy
    have hRk : k < R.length := hkR
    have HSEP := Lib.hid (sep_less HM.out.sep hkR)
    rw [← HY.out] at HSEP
    clear hy
    go_enter Tryz.func72, Tryz.ntmps72
    go_wp2_with fail
    rw [← HV.out]
    go_wp2_with fail
    refine C1.out.mono ?_
    rintro e w2 ⟨rfl, hb2⟩
    have HM2 := Lib.hid (HM.out.stays hb2)
    have HB2 := Lib.hid (HBV.out.trans (hb2.mono hBV))
    have HR2 := Lib.hid (HRB.out.step hb2)
    have HP2 := Lib.hid (HRK.out w2 hb2)
    obtain ⟨_, a1, cap1, hv1, ⟨_, hcap⟩, hc1⟩ := HRW.out w2 hb2
    subst hv1
    obtain ⟨b1, o1, rfl, hbl, g1⟩ := hc1 (by omega)
    obtain ⟨c0, c1, c2⟩ := g1 k hkR
    rw [← HY.out] at c0 c1 c2
    obtain ⟨m0, m1, m2, fm⟩ := HM2.out.cell
    have hbk : decide ((k : Int) < (R.length : Int)) = true := decide_eq_true (by omega)
    have hlw : w.heap.size < w2.heap.size := HR2.out.lt
    have hlk : kb < w2.heap.size := HM2.out.lt
    have HA : Hid (Below w2.heap.size w2 (w2.alloc (.cells #[.string y.n, .string y.d, .slice y.a y.z y.c] 56))) := Lib.hid ((Below.refl _ _).alloc (Nat.le_refl _) _)
    have HRA : Hid (Row (w2.alloc (.cells #[.string y.n, .string y.d, .slice y.a y.z y.c] 56)) w2.heap.size #[.string y.n, .string y.d, .slice y.a y.z y.c] 56) := Lib.hid (Row.made _ _ _)
    have hsz2 : V.heap.size ≤ w2.heap.size := hb2.size
    have HFB : Hid (∀ b, b < w.heap.size → w2.heap[b]? = w.heap[b]?) := Lib.hid fun b h1 => (HBW.out.trans (hb2.mono HBW.out.size)).block b h1
    clear hb2 g1 hc1
    have HM3 := Lib.hid (HM2.out.stays HA.out)
    have HR3 := Lib.hid (HR2.out.step HA.out)
    have HP3 := Lib.hid (HP2.out.stays HA.out)
    have HB3 := Lib.hid (HB2.out.trans (HA.out.mono (Nat.le_trans hBV (by have := HB2.out; exact hsz2))))
    have HNE3 : Hid ((Value.slice (some (⟨b1, o1, none⟩ : Addr)) R.length cap1).ownBlock ≠ some w2.heap.size) := Lib.hid fun e => by have := (World.ownsRow.lt HM2.out.own _ e).2; omega
    have C3 := Lib.hid (CD.out _ HM3.out.own (Nat.le_trans hBV (Nat.le_trans hsz2 HA.out.size)))
    go_wp2_with fail
    refine C3.out.mono ?_
    rintro e w4 ⟨v4, rfl, ho4, hg4, hv4⟩
    obtain ⟨a4, n4, c4, rfl⟩ := ho4.len
    obtain ⟨hk4, hp4⟩ := HM3.out.grown hg4
    have hR4 : Row w4 w.heap.size #[.string ⟨#[]⟩, .string ⟨#[]⟩, .slice none 0 0] 56 := by
      unfold Row; rw [hg4.block _ HR3.out.lt (fun e => HNE.out e.symm)]; exact HR3.out
    have hY4 : Row w4 w2.heap.size #[.string y.n, .string y.d, .slice y.a y.z y.c] 56 := by
      unfold Row; rw [hg4.block _ HRA.out.lt (fun e => HNE3.out e.symm)]; exact HRA.out
    have HM5 := Lib.hid (Mch.put0 hk4 HM3.out.from_ ho4 (HRS.out _ (HM3.out.rows.imp fun r x h => hp4 r x h)) HSEP.out.1)
    have HP5 := Lib.hid ((hp4 _ _ HP3.out).turn (grownBy_set_Dlh w4 kb 0 (.slice a4 n4 c4)) fun g e => by cases e; exact ⟨_, _, hk4, by decide⟩)
    have hkr : w.heap.size ≠ kb := fun e => by
      subst e
      unfold Row at hR4 hk4
      rw [hR4] at hk4; cases hk4
    have HR5 := Lib.hid (hR4.other ⟨kb, 0, none⟩ (.slice a4 n4 c4) hkr)
    have HNE5 : Hid ((Value.slice a4 n4 c4).ownBlock ≠ some w.heap.size) := Lib.hid (by rw [hv4]; exact HNE.out)
    have HB5 : Hid (Below B w (w4.setCell ⟨kb, 0, none⟩ (.slice a4 n4 c4))) := Lib.hid (((HB3.out).trans (Mch.below HM3.out.own hg4 (Nat.le_trans hBV (Nat.le_trans hsz2 HA.out.size)))).setCell (p := ⟨kb, 0, none⟩) HM3.out.from_ (.slice a4 n4 c4))
    have HFR : Hid (∀ b, b < w.heap.size → b ≠ kb → (Value.slice (some (⟨b1, o1, none⟩ : Addr)) R.length cap1).ownBlock ≠ some b → (put3 (w4.setCell ⟨kb, 0, none⟩ (.slice a4 n4 c4)) w.heap.size y).heap[b]? = w.heap[b]?) := Lib.hid fun b h1 h2 h3 => by
      unfold put3
      rw [Below.heap_setCell _ _ _ b (by simp; omega), Below.heap_setCell _ _ _ b (by simp; omega), Below.heap_setCell _ _ _ b (by simp; omega), Below.heap_setCell _ _ _ b (by simpa using h2), hg4.block b (Nat.lt_of_lt_of_le (by omega : b < w2.heap.size) HA.out.size) (fun e => h3 e.symm), HA.out.block b (by omega), HFB.out b h1]
    have HVB : Hid ((Value.slice a4 n4 c4).ownBlock = (Value.slice (some (⟨b1, o1, none⟩ : Addr)) R.length cap1).ownBlock) := Lib.hid hv4
    have HSUB : Hid (∀ y ∈ R.take k ++ R.drop (k + 1), y ∈ R) := Lib.hid fun y hy => by
      rcases List.mem_append.1 hy with hy | hy
      · exact List.mem_of_mem_take hy
      · exact List.mem_of_mem_drop hy
    have HM6 := Lib.hid (HM5.out.put3 HR5.out HNE5.out y)
    have HP6 := Lib.hid (HP5.out.put3 HR5.out y)
    have HR6 := Lib.hid (row_put3 HR5.out y)
    have HB6 := Lib.hid (below_put3 HB5.out hB y)
    unfold put3 at HM6 HP6 HR6 HB6 HFR
    have hkn := fun i => hk4.free i
    have hkc := hk4.cell 0
    simp only [List.getElem?_toArray, List.getElem?_cons_zero] at hkc
    obtain ⟨y0, y1, y2, fy⟩ := row_cells hY4
    obtain ⟨r0, r1, r2, fr⟩ := row_cells hR4
    have hky : kb ≠ w2.heap.size := by omega
    clear c0 c1 c2 m0 m1 m2 fm hg4 hk4 hp4 hR4 hY4 ho4 hv4
    go_wp2_with fail
    obtain ⟨r0', r1', r2', _⟩ := row_cells HR6.out
    exact bodyPost_ret (v := dfrV y) (by simp [results, Tryz.results72, go_sem, r0', r1', r2']) rfl ⟨y, _, _, rfl, by rw [HLE2.out]; exact HM6.out, by rw [HX.out]; exact HP6.out, HSEP.out.2, HB6.out, HSUB.out, HVB.out, HFR.out⟩
def PutR (B kb : Nat) (d : Dsk) (x : Dfl) (w : World) (e : Ending) (w' : World) : Prop := ∃ v' R', e = .returned (.tuple #[]) ∧ Mch B kb w' v' R' ⟨withF d.fs x, d.off, d.fuse⟩ ∧ Below B w w' ∧ KeepT w w'
set_option maxRecDepth 100000 in
set_option maxHeartbeats 4000000 in
theorem put_any (B kb : Nat) (v : Value) (R : List Dfr) (d : Dsk) (r : Dfr) (x : Dfl) (w : World) (h : Mch B kb w v R d) (hx : RowP B w r x) (hB : B ≤ w.heap.size) (hr : d.fs.Pairwise fun x y => x.t < y.t) (hl : d.fs.length ≤ 1000) (hn : getF d.fs x.t = none) (hsep : ∀ y ∈ R, SepR r y) :
    Calls Tryz.prog 70 #[.pointer (some ⟨kb, 0, none⟩), dfrV r] w (PutR B kb d x w) := by
  obtain ⟨V, hV⟩ : ∃ V, V = w.alloc (.cells #[.string r.n, .string r.d, .slice r.a r.z r.c] 56) := ⟨_, rfl⟩
  have hbV : Below w.heap.size w V := by rw [hV]; exact (Below.refl _ _).alloc (Nat.le_refl _) _
  have hRb : Row V w.heap.size #[.string r.n, .string r.d, .slice r.a r.z r.c] 56 := by rw [hV]; exact Row.made _ _ _
  have hM := h.stays hbV
  have HV := Lib.hid hV; have HM := Lib.hid hM; have HRB := Lib.hid hRb; have HP := Lib.hid (hx.stays hbV)
  have HBV : Hid (Below B w V) := Lib.hid (hbV.mono hB)
  have HKV : Hid (KeepT w V) := Lib.hid (KeepT.below hbV)
  have hlR : R.length = d.fs.length := h.rows.len
  have C1 := Lib.hid (place_any_Dlh (B := B) r.n V hM.own.rws hM.cell.1 hM.names hr (by rw [hlR]; omega))
  have hxt : r.n.data.toList = x.t := by rw [hx.1]; rfl
  rw [hxt, hn] at C1
  have HW := Lib.hid (withF_at hr hn)
  have hle := cntF_le d.fs x.t
  obtain ⟨k, hk⟩ : ∃ k, k = cntF d.fs x.t := ⟨_, rfl⟩
  rw [← hk] at C1 HW hle
  have HRS : Hid (∀ St, RowsS St R d.fs → St r x → RowsS St (R.take k ++ r :: R.drop k) (d.fs.take k ++ x :: d.fs.drop k)) := Lib.hid fun St h1 h2 => (h1.take k).app (show RowsS St (r :: R.drop k) (x :: d.fs.drop k) from ⟨h2, h1.drop k⟩)
  have hBV : B ≤ V.heap.size := Nat.le_trans hB hbV.size
  obtain ⟨r0, r1, r2, fr⟩ := row_cells hRb
  have HSEP := Lib.hid hsep
  have CI := Lib.hid (fun W A (hO : OwnD B W v R) (hBW : B ≤ W.heap.size) h1 h2 => dInsert_any B v R k A r W hO (by omega) (by omega) hBW h1 h2)
  clear hV hbV hRb hM h hk hn hxt hlR hx
  go_enter Tryz.func70, Tryz.ntmps70
  go_wp2_with fail
  rw [← HV.out]
  go_wp2_with fail
  refine C1.out.mono ?_
  rintro e w2 ⟨rfl, hb2⟩
  have HM2 := Lib.hid (HM.out.stays hb2)
  have HP2 := Lib.hid (HP.out.stays hb2)
  have HB2 := Lib.hid (HBV.out.trans (hb2.mono hBV))
  have HR2 := Lib.hid (HRB.out.step hb2)
  have hsz2 : V.heap.size ≤ w2.heap.size := hb2.size
  have HKT : Hid (KeepT w w2) := Lib.hid (HKV.out.trans (KeepT.below hb2))
  clear hb2 r0 r1 r2 fr
  obtain ⟨r0, r1, r2, fr⟩ := row_cells HR2.out
  obtain ⟨m0, m1, m2, fm⟩ := HM2.out.cell
  have hlw : w.heap.size < w2.heap.size := HR2.out.lt
  have hlk : kb < w2.heap.size := HM2.out.lt
  have CIN : Hid (∀ W3, Below w2.heap.size w2 W3 → ∀ A, w2.heap.size ≤ A → W3.heap[A]? = some (.cells #[.string r.n, .string r.d, .slice r.a r.z r.c] 56 (0, 0)) →
      Calls Tryz.prog 92 #[v, .int .i64 k, .slice (some ⟨A, 0, none⟩) 1 1] W3 fun e w' => ∃ a4 n4 c4, e = .returned (.slice a4 n4 c4) ∧ w'.cell? ⟨kb, 0, none⟩ = some v ∧ (∀ i, w'.frozen? ⟨kb, i, none⟩ = false) ∧
        Mch B kb (w'.setCell ⟨kb, 0, none⟩ (.slice a4 n4 c4)) (.slice a4 n4 c4) (R.take k ++ r :: R.drop k) ⟨withF d.fs x, d.off, d.fuse⟩ ∧ Below B w (w'.setCell ⟨kb, 0, none⟩ (.slice a4 n4 c4)) ∧ KeepT w (w'.setCell ⟨kb, 0, none⟩ (.slice a4 n4 c4))) := Lib.hid fun W3 hW A hA hrow => by
    have hM3 := HM2.out.stays hW
    have hBW : B ≤ W3.heap.size := Nat.le_trans hBV (Nat.le_trans hsz2 hW.size)
    refine (CI.out W3 A hM3.own hBW hrow (fun e => by have := (World.ownsRow.lt HM2.out.own _ e).2; omega)).mono ?_
    rintro e w4 ⟨v4, rfl, ho4, hg4⟩
    obtain ⟨a4, n4, c4, rfl⟩ := ho4.len
    obtain ⟨hk4, hp4⟩ := hM3.grown hg4
    have hc := hk4.cell 0
    simp only [List.getElem?_toArray, List.getElem?_cons_zero] at hc
    refine ⟨a4, n4, c4, rfl, hc, fun i => hk4.free i, ?_, ?_, ((HKT.out.trans (KeepT.below hW)).trans (KeepT.grown hg4 fun g e => by obtain ⟨xs, hx⟩ := hM3.own.row e; exact ⟨xs, _, hx, .inr (.inl rfl)⟩)).trans (KeepT.set hk4 (.inl rfl) 0 _)⟩
    · rw [HW.out]
      exact Mch.put0 hk4 hM3.from_ ho4 (HRS.out _ (hM3.rows.imp fun r x h => hp4 r x h) (hp4 _ _ (HP2.out.stays hW))) (sep_with k HM2.out.sep HSEP.out)
    · exact ((HB2.out.trans (hW.mono (Nat.le_trans hBV hsz2))).trans (Mch.below hM3.own hg4 hBW)).setCell (p := ⟨kb, 0, none⟩) hM3.from_ (.slice a4 n4 c4)
  clear CI HRS HW
  go_wp2_with fail
  go_region_with (go_at_call 92; refine (CIN.out _ ((Below.refl _ w2).drew.alloc (Nat.le_refl _) _) w2.heap.size (Nat.le_refl _) (Row.made _ _ _)).mono ?_; rintro e w4 ⟨a4, n4, c4, rfl, hc4, hf4, hM4, hB4, hT4⟩; have HM4 := Lib.hid hM4; have HB4 := Lib.hid hB4; have HT4 := Lib.hid hT4; clear hM4 hB4 hT4)
  all_goals (go_end0; exact ⟨_, _, rfl, HM4.out, HB4.out, HT4.out⟩)
set_option maxRecDepth 100000 in
set_option maxHeartbeats 4000000 in
theorem settled_any (f : Dfl) (u : Value) (w : World) (h : IsOps w u f.ops) (hd : f.d.size ≤ 262144) (ho : ∀ o ∈ f.ops, opOk o) :
    Calls Tryz.prog 71 #[.agg #[.string f.n, .string f.d, u]] w fun e w' => e = .returned (.agg #[.string f.n, .string (strT (seenF f)), .slice none 0 0]) ∧ Below w.heap.size w w' := by
  obtain ⟨V, hV⟩ : ∃ V, V = (w.alloc (.cells #[.string f.n, .string f.d, u] 56)).alloc (.cells #[.string ⟨#[]⟩, .string ⟨#[]⟩, .slice none 0 0] 56) := ⟨_, rfl⟩
  have hbV : Below w.heap.size w V := by rw [hV]; exact ((Below.refl _ _).alloc (Nat.le_refl _) _).alloc (by simp) _
  have hR : Row V w.heap.size #[.string f.n, .string f.d, u] 56 := by rw [hV]; exact (Row.made _ _ _).alloc _
  have hR2 : Row V (w.heap.size + 1) #[.string ⟨#[]⟩, .string ⟨#[]⟩, .slice none 0 0] 56 := by
    rw [hV]; have := Row.made (w.alloc (.cells #[.string f.n, .string f.d, u] 56)) #[.string ⟨#[]⟩, .string ⟨#[]⟩, .slice none 0 0] 56; simpa using this
  obtain ⟨_, a, cap, hu, _, _⟩ := id h
  have HV := Lib.hid hV; have HBV := Lib.hid hbV
  obtain ⟨p0, p1, p2, fz0⟩ := row_cells hR
  obtain ⟨r0, r1, r2, fz1⟩ := row_cells hR2
  have hlt := hR2.lt
  have CS : Hid (∀ W, Below V.heap.size V W → Calls Tryz.prog 74 #[.agg #[.string f.n, .string f.d, u]] W fun e w' => e = .returned (.string (strT (seenF f))) ∧
      Row w' w.heap.size #[.string f.n, .string f.d, u] 56 ∧ Row w' (w.heap.size + 1) #[.string ⟨#[]⟩, .string ⟨#[]⟩, .slice none 0 0] 56 ∧ Below w.heap.size w w') := Lib.hid fun W hW => by
    refine (seen_any f u W ((h.stays hbV).stays hW) hd ho).mono ?_
    rintro e w' ⟨rfl, hb⟩
    have hb2 := below_step hW hb
    exact ⟨rfl, hR.step hb2, hR2.step hb2, below_step hbV hb2⟩
  have hb1 : w.heap.size < V.heap.size := by omega
  subst hu
  clear hV hbV hR hR2 h ho hd
  go_enter Tryz.func71, Tryz.ntmps71
  go_wp2_with fail
  rw [← HV.out]
  go_wp2_with fail
  go_region_with (go_at_call 74; refine (CS.out _ (Below.refl _ V).drew).mono ?_; rintro e w4 ⟨rfl, hq0, hq1, hb4⟩; have HQ1 := Lib.hid hq1; have HB4 := Lib.hid hb4; obtain ⟨p0, p1, p2, fz0⟩ := row_cells hq0; obtain ⟨r0, r1, r2, fz1⟩ := row_cells hq1; clear hq0 hq1 hb4)
  all_goals
    have HQ3 := Lib.hid (row_put3 HQ1.out ⟨f.n, strT (seenF f), none, 0, 0⟩)
    have HB5 := Lib.hid (below_put3 HB4.out (Nat.le_succ _) ⟨f.n, strT (seenF f), none, 0, 0⟩)
    unfold put3 at HQ3 HB5
    clear p0 p1 p2 fz0 r0 r1 r2 fz1
    go_wp2
    obtain ⟨r0', r1', r2', _⟩ := row_cells HQ3.out
    exact bodyPost_ret (v := .agg #[.string f.n, .string (strT (seenF f)), .slice none 0 0]) (by simp [results, Tryz.results71, go_sem, r0', r1', r2']) rfl ⟨rfl, HB5.out⟩
theorem dfrCells_ops : ∀ {R : List Dfr} {i : Nat} (hi : i < R.length) (a : Option Addr) (z c : Nat), dfrCells (R.set i ⟨R[i].n, R[i].d, a, z, c⟩) = (dfrCells R).set (i * 3 + 2) (.slice a z c)
  | [], i, hi, _, _, _ => absurd hi (by simp)
  | x :: R, 0, hi, a, z, c => rfl
  | x :: R, i + 1, hi, a, z, c => by
    have hi' : i < R.length := by simpa using hi
    have ih := dfrCells_ops (R := R) (i := i) hi' a z c
    show dfrC x ++ dfrCells (R.set i ⟨R[i].n, R[i].d, a, z, c⟩) = (dfrC x ++ dfrCells R).set _ _
    rw [ih, List.set_append_right _ _ (by simp; omega)]
    have : (i + 1) * 3 + 2 - (dfrC x).length = i * 3 + 2 := by show (i + 1) * 3 + 2 - 3 = _; omega
    rw [this]
theorem ownD_ops {B : Nat} {w : World} {g n cap i : Nat} {R : List Dfr} (h : OwnD B w (.slice (some ⟨g, 0, none⟩) n cap) R) (hi : i < R.length) (a : Option Addr) (z c : Nat) :
    OwnD B (w.setCell ⟨g, i * 3 + 2, none⟩ (.slice a z c)) (.slice (some ⟨g, 0, none⟩) n cap) (R.set i ⟨R[i].n, R[i].d, a, z, c⟩) ∧ w.cell? ⟨g, i * 3 + 2, none⟩ = some (.slice R[i].a R[i].z R[i].c) ∧ w.frozen? ⟨g, i * 3 + 2, none⟩ = false ∧ B ≤ g := by
  have hcell := h.cells (g := g) rfl (i * 3 + 2) (.slice R[i].a R[i].z R[i].c) (by rw [dfrCells_get hi (by decide)]; rfl)
  rw [add_plain', Nat.zero_add] at hcell
  rcases h.2 with ⟨h0, _⟩ | ⟨g', cap', cur, h1, h2, h3, h4, h5, h6, h7⟩
  · cases h0
  cases h1
  have hrow : Row w g cur 56 := h3
  refine ⟨⟨by rw [dfrCells_len], .inr ⟨g, cap, cur.setIfInBounds (i * 3 + 2) (.slice a z c), by rw [List.length_set], h2, hrow.set _ _, by rw [List.length_set]; exact h4, h5, by simpa using h6, ?_⟩⟩, hcell, hrow.free _, h2⟩
  rw [List.length_set, dfrCells_ops hi, ← h7, Array.toList_setIfInBounds, List.take_set]
theorem rows_of_get {St : Dfr → Dfl → Prop} : ∀ {R : List Dfr} {L : List Dfl}, R.length = L.length → (∀ i (h1 : i < R.length) (h2 : i < L.length), St R[i] L[i]) → RowsS St R L
  | [], [], _, _ => trivial
  | r :: R, x :: L, h, hs => ⟨hs 0 (by simp) (by simp), rows_of_get (by simpa using h) fun i h1 h2 => hs (i + 1) (by simpa using h1) (by simpa using h2)⟩
  | [], _ :: _, h, _ => by simp at h
  | _ :: _, [], h, _ => by simp at h
structure NewI (B kb : Nat) (w : World) (v : Value) (R : List Dfr) (d : Dsk) (k : Nat) : Prop where
  row : Row w kb #[v, .bool d.off, .int .i64 d.fuse] 105
  own : OwnD B w v R
  len : R.length = d.fs.length
  at_ : ∀ j (h1 : j < R.length) (h2 : j < d.fs.length), R[j].n = d.fs[j].n ∧ R[j].d = d.fs[j].d ∧ (j < k → OwnP15 B w (.slice R[j].a R[j].z R[j].c) d.fs[j].ops)
  sep : ∀ i j (h1 : i < R.length) (h2 : j < R.length), i < k → j < k → i ≠ j → SepR R[i] R[j]
theorem OwnP15.turn {B : Nat} {w w' : World} {v : Value} {L : List Dop} {row : Option Nat} (h : OwnP15 B w v L) (hg : w.grownBy w' row) (hr : ∀ g, row = some g → ∃ xs T, Row w g xs T ∧ T ≠ 59) : OwnP15 B w' v L :=
  h.grown hg (by
    cases hv : v.ownBlock with
    | none => exact .inl rfl
    | some k =>
      refine .inr fun e => ?_
      obtain ⟨xs, T, h1, h2⟩ := hr k e.symm
      obtain ⟨ys, h3⟩ := h.row hv
      unfold Row at h3
      rw [show w.heap[k]? = _ from h1] at h3
      cases h3; exact h2 rfl)
section
variable {B kb : Nat} {w w' : World} {v : Value} {R : List Dfr} {d : Dsk} {k : Nat}
theorem NewI.stays (h : NewI B kb w v R d k) (hb : Below w.heap.size w w') : NewI B kb w' v R d k :=
  ⟨h.row.step hb, h.own.stays hb, h.len, fun j h1 h2 => ⟨(h.at_ j h1 h2).1, (h.at_ j h1 h2).2.1, fun hj => ((h.at_ j h1 h2).2.2 hj).stays hb⟩, h.sep⟩
theorem NewI.done (h : NewI B kb w v R d k) (hk : d.fs.length ≤ k) (hB : B ≤ kb) : Mch B kb w v R d :=
  ⟨h.row, h.own, rows_of_get h.len fun i h1 h2 => ⟨(h.at_ i h1 h2).1, (h.at_ i h1 h2).2.1, (h.at_ i h1 h2).2.2 (by omega)⟩, hB, List.pairwise_iff_getElem.2 fun i j h1 h2 hij => h.sep i j h1 h2 (by have := h.len; omega) (by have := h.len; omega) (by omega)⟩
theorem NewI.next (h : NewI B kb w v R d k) (hk : k < d.fs.length) {a : Option Addr} {z c : Nat} (ho : OwnP15 B w (.slice a z c) (d.fs[k]).ops) (hnew : ∀ j (hj : j < R.length), j < k → ∀ g, (Value.slice a z c).ownBlock = some g → obk R[j] ≠ some g) : ∃ g cap, v = .slice (some ⟨g, 0, none⟩) d.fs.length cap ∧ d.fs.length ≤ cap ∧ cap ≤ maxLen ∧ B ≤ g ∧
    w.frozen? ⟨g, k * 3 + 2, none⟩ = false ∧ (∃ u, w.cell? ⟨g, k * 3 + 2, none⟩ = some u) ∧ ∃ R', NewI B kb (w.setCell ⟨g, k * 3 + 2, none⟩ (.slice a z c)) v R' d (k + 1) := by
  have hkR : k < R.length := by rw [h.len]; exact hk
  rcases h.own.2 with ⟨_, h0⟩ | ⟨g, cap, cur, rfl, hbg, hg, hle, hm, _⟩
  · rw [h0] at hkR; exact absurd hkR (by simp)
  obtain ⟨o1, o2, o3, o4⟩ := ownD_ops h.own hkR a z c
  have hgr : w.grownBy (w.setCell ⟨g, k * 3 + 2, none⟩ (.slice a z c)) (some g) := grownBy_set_Dlh w g _ _
  have hrow : ∀ g', some g = some g' → ∃ xs T, Row w g' xs T ∧ T ≠ 59 := fun g' e => by cases e; exact ⟨_, _, hg, by decide⟩
  refine ⟨g, cap, by rw [h.len], by rw [← h.len]; exact hle, hm, hbg, o3, ⟨_, o2⟩, _, ⟨h.row.other ⟨g, k * 3 + 2, none⟩ _ (fun e => ?_), o1, by rw [List.length_set]; exact h.len, fun j h1 h2 => ?_, fun i j h1 h2 hi hj hij => ?_⟩⟩
  · have h1 := h.row
    unfold Row at h1
    have e' : kb = g := e
    rw [e', hg] at h1; cases h1
  · rw [List.length_set] at h1
    obtain ⟨g1, g2, g3⟩ := h.at_ j h1 h2
    rw [List.getElem_set]
    by_cases e : k = j
    · subst e
      rw [if_pos rfl]
      exact ⟨g1, g2, fun _ => ho.turn hgr hrow⟩
    · rw [if_neg e]
      exact ⟨g1, g2, fun hj => (g3 (by omega)).turn hgr hrow⟩
  · rw [List.length_set] at h1 h2
    rw [List.getElem_set, List.getElem_set]
    by_cases e1 : k = i
    · rw [if_pos e1, if_neg (by omega)]
      exact hnew j h2 (by omega)
    · rw [if_neg e1]
      by_cases e2 : k = j
      · rw [if_pos e2]
        exact SepR.symm (hnew i h1 (by omega))
      · rw [if_neg e2]
        exact h.sep i j h1 h2 (by omega) (by omega) hij
end
theorem Mch.low {B B' kb : Nat} {w : World} {v : Value} {R : List Dfr} {d : Dsk} (h : Mch B kb w v R d) (hb : B' ≤ B) : Mch B' kb w v R d := ⟨h.row, ownD_low h.own hb, h.rows.imp fun r x hr => ⟨hr.1, hr.2.1, hr.2.2.low hb⟩, Nat.le_trans hb h.from_, h.sep⟩
def RetM (d : Dsk) (w : World) (e : Ending) (w' : World) : Prop := ∃ kb v R, e = .returned (.pointer (some ⟨kb, 0, none⟩)) ∧ Mch w.heap.size kb w' v R d ∧ Below w.heap.size w w'
set_option maxRecDepth 100000 in
set_option maxHeartbeats 4000000 in
theorem newMachine_any (d : Dsk) (v0 : Value) (w : World) (h : IsDfs w v0 d.fs) (hl : d.fs.length ≤ 1000) (ho : ∀ f ∈ d.fs, f.ops.length ≤ 1000) :
    Calls Tryz.prog 63 #[dskV v0 d] w (RetM d w) := by
  obtain ⟨V, hV⟩ : ∃ V, V = (w.alloc (.cells #[v0, .bool d.off, .int .i64 d.fuse] 28)).alloc (.cells #[v0, .bool d.off, .int .i64 d.fuse] 105) := ⟨_, rfl⟩
  have hbV : Below w.heap.size w V := by rw [hV]; exact ((Below.refl _ _).alloc (Nat.le_refl _) _).alloc (by simp) _
  have hR : Row V w.heap.size #[v0, .bool d.off, .int .i64 d.fuse] 28 := by rw [hV]; exact (Row.made _ _ _).alloc _
  have hR2 : Row V (w.heap.size + 1) #[v0, .bool d.off, .int .i64 d.fuse] 105 := by
    rw [hV]; have := Row.made (w.alloc (.cells #[v0, .bool d.off, .int .i64 d.fuse] 28)) #[v0, .bool d.off, .int .i64 d.fuse] 105; simpa using this
  have HV := Lib.hid hV; have HBV := Lib.hid hbV
  have HIV := Lib.hid (h.stays hbV)
  obtain ⟨_, a, cap, hu, ⟨_, hcap⟩, _⟩ := id h
  obtain ⟨z, hz⟩ : ∃ z, z = d.fs.length := ⟨_, rfl⟩
  rw [← hz] at hu hl
  have HZ := Lib.hid hz
  subst hu
  obtain ⟨R0, hR0, hS0⟩ := h.rws
  have hV2 : V.heap.size = w.heap.size + 2 := by rw [hV]; simp
  -- the copy of the files
  have CC : Hid (Calls Tryz.prog 42 #[.slice a z cap] V fun e w' => ∃ a4 n4 c4, e = .returned (.slice a4 n4 c4) ∧ Row w' w.heap.size #[.slice a z cap, .bool d.off, .int .i64 d.fuse] 28 ∧
      Row w' (w.heap.size + 1) #[.slice a z cap, .bool d.off, .int .i64 d.fuse] 105 ∧ NewI w.heap.size (w.heap.size + 1) (w'.setCell ⟨w.heap.size + 1, 0, none⟩ (.slice a4 n4 c4)) (.slice a4 n4 c4) R0 d 0 ∧ Below w.heap.size w (w'.setCell ⟨w.heap.size + 1, 0, none⟩ (.slice a4 n4 c4)) ∧
      Row (w'.setCell ⟨w.heap.size + 1, 0, none⟩ (.slice a4 n4 c4)) w.heap.size #[.slice a z cap, .bool d.off, .int .i64 d.fuse] 28) := Lib.hid (by
    refine (dClone_any (.slice a z cap) R0 V (hR0.stays hbV) (by rw [hS0.len]; omega)).mono ?_
    rintro e w' ⟨v', rfl, hown, hb⟩
    obtain ⟨a4, n4, c4, rfl⟩ := hown.len
    have h1 := hR.step hb; have h2 := hR2.step hb
    have hown' := ownD_low hown (show w.heap.size ≤ V.heap.size from hbV.size)
    have hset := h2.set 0 (.slice a4 n4 c4)
    refine ⟨a4, n4, c4, rfl, h1, h2, ⟨hset, World.ownsRow.kept hown' (grownBy_set_Dlh w' (w.heap.size + 1) 0 _) (.inr (hown'.apart h2 (by decide))), hS0.len, fun j g1 g2 => ?_, fun i j _ _ hi => absurd hi (by omega)⟩, ((below_step hbV hb).setCell (p := ⟨w.heap.size + 1, 0, none⟩) (Nat.le_succ _) _), h1.other ⟨w.heap.size + 1, 0, none⟩ _ (by simp)⟩
    have := hS0.get j g1 g2
    exact ⟨this.1, this.2.1, fun hj => absurd hj (by omega)⟩
    )
  obtain ⟨p0, p1, p2, fz0⟩ : V.cell? ⟨w.heap.size, 0, none⟩ = some (.slice a z cap) ∧ V.cell? ⟨w.heap.size, 1, none⟩ = some (.bool d.off) ∧ V.cell? ⟨w.heap.size, 2, none⟩ = some (.int .i64 d.fuse) ∧ ∀ i, V.frozen? ⟨w.heap.size, i, none⟩ = false := by
    have p0 := hR.cell 0; have p1 := hR.cell 1; have p2 := hR.cell 2
    simp only [List.getElem?_toArray, List.getElem?_cons_zero, List.getElem?_cons_succ] at p0 p1 p2
    exact ⟨p0, p1, p2, fun i => hR.free i⟩
  have HOPS : Hid (∀ k (hk : k < d.fs.length), (d.fs[k]).ops.length ≤ 1000) := Lib.hid fun k hk => ho _ (List.getElem_mem hk)
  have hzz : z ≤ 9223372036854775807 := by omega
  have HI := Lib.hid h
  clear hV hbV hR hR2 h hz hR0 hS0 ho
  unfold dskV
  go_enter Tryz.func63, Tryz.ntmps63
  go_wp2_with fail
  rw [← HV.out]
  refine CC.out.mono ?_
  rintro e w1 ⟨a4, n4, c4, rfl, h1, h2, hN, hB, h3⟩
  have HN := Lib.hid hN; have HB := Lib.hid hB
  obtain ⟨m0, m1, m2, fm⟩ : w1.cell? ⟨w.heap.size + 1, 0, none⟩ = some (.slice a z cap) ∧ w1.cell? ⟨w.heap.size + 1, 1, none⟩ = some (.bool d.off) ∧ w1.cell? ⟨w.heap.size + 1, 2, none⟩ = some (.int .i64 d.fuse) ∧ ∀ i, w1.frozen? ⟨w.heap.size + 1, i, none⟩ = false := by
    have p0 := h2.cell 0; have p1 := h2.cell 1; have p2 := h2.cell 2
    simp only [List.getElem?_toArray, List.getElem?_cons_zero, List.getElem?_cons_succ] at p0 p1 p2
    exact ⟨p0, p1, p2, fun i => h2.free i⟩
  have q0 : w1.cell? ⟨w.heap.size, 0, none⟩ = some (.slice a z cap) := by
    have p0 := h1.cell 0
    simp only [List.getElem?_toArray, List.getElem?_cons_zero] at p0
    exact p0
  clear p0 p1 p2 fz0 h1 h2 h3 hN hB
  go_wp2_with fail
  go_loopw [19] (fun i wr => ∃ (k : Nat) (R : List Dfr), k ≤ z ∧ i = .int .i64 k ∧ NewI w.heap.size (w.heap.size + 1) wr (.slice a4 n4 c4) R d k ∧ Below w.heap.size w wr) (fun i _ => z - (intOf i).toNat)
  case atStart => exact ⟨0, R0, Nat.zero_le _, rfl, HN.out, HB.out⟩
  case round =>
    clear HN HB m0 m1 m2 fm q0
    obtain ⟨k, R, hk, rfl, hN, hB⟩ := hrel
    have HN := Lib.hid hN; have HB := Lib.hid hB
    by_cases hlt : k < z
    · have hko : k < d.fs.length := by have := HZ.out; omega
      obtain ⟨_, _, _, hev, _, hc⟩ := HI.out.stays hB
      rw [← HZ.out] at hev
      cases hev
      obtain ⟨b1, o1, rfl, hbl, g1⟩ := hc (by omega)
      obtain ⟨u, c0, c1, c2, hu⟩ := g1 k hko
      have hops := HOPS.out k hko
      obtain ⟨f, hf⟩ : ∃ f, f = d.fs[k]'hko := ⟨_, rfl⟩
      rw [← hf] at c0 c1 hu hops
      have hbk : decide ((k : Int) < (z : Int)) = true := by simpa using (show (k : Int) < z by omega)
      have hsz : w.heap.size ≤ wr.heap.size := hB.size
      obtain ⟨W, hW⟩ : ∃ W, W = wr.alloc (.cells #[.string f.n, .string f.d, u] 56) := ⟨_, rfl⟩
      have hbW : Below wr.heap.size wr W := by rw [hW]; exact (Below.refl _ _).alloc (Nat.le_refl _) _
      have hRW : Row W wr.heap.size #[.string f.n, .string f.d, u] 56 := by rw [hW]; exact Row.made _ _ _
      obtain ⟨a2, cap2, hu2⟩ := hu.len
      have CO : Hid (∀ W2, Below W.heap.size W W2 → Calls Tryz.prog 43 #[u] W2 fun e w' => ∃ a5 n5 c5 g cap', e = .returned (.slice a5 n5 c5) ∧ Row w' (w.heap.size + 1) #[.slice a4 n4 c4, .bool d.off, .int .i64 d.fuse] 105 ∧
          Row w' wr.heap.size #[.string f.n, .string f.d, u] 56 ∧ a4 = some ⟨g, 0, none⟩ ∧ n4 = z ∧ c4 = cap' ∧ z ≤ cap' ∧ cap' ≤ 9223372036854775807 ∧ w'.frozen? ⟨g, k * 3 + 2, none⟩ = false ∧ (∃ u, w'.cell? ⟨g, k * 3 + 2, none⟩ = some u) ∧
          (∃ R', NewI w.heap.size (w.heap.size + 1) (w'.setCell ⟨g, k * 3 + 2, none⟩ (.slice a5 n5 c5)) (.slice a4 n4 c4) R' d (k + 1)) ∧ Below w.heap.size w (w'.setCell ⟨g, k * 3 + 2, none⟩ (.slice a5 n5 c5))) := Lib.hid fun W2 hW2 => by
        refine (opClone_any u f.ops W2 ((hu.stays hbW).stays hW2) (by omega)).mono ?_
        rintro e w' ⟨v', rfl, hown, hb⟩
        have hb2 := below_step hW2 hb
        have hb3 := below_step hbW hb2
        have hN' := hN.stays hb3
        obtain ⟨a5, c5, rfl⟩ := hown.is.len
        have hown' : OwnP15 w.heap.size w' (.slice a5 f.ops.length c5) (d.fs[k]'hko).ops := by rw [← hf]; exact hown.low (show w.heap.size ≤ W2.heap.size from Nat.le_trans hsz (Nat.le_trans hbW.size hW2.size))
        obtain ⟨g, cap', e1, e2, e3, e4, e5, e6, e7⟩ := hN'.next hko hown' (fun j hj hjk g e1 e2 => by
          have h1 := (World.ownsRow.lt hown g e1).1
          have hjd : j < d.fs.length := by rw [← hN.len]; exact hj
          have h2 := (World.ownsRow.lt ((hN.at_ j hj hjd).2.2 hjk) g e2).2
          have h3 := hbW.size; have h4 := hW2.size
          omega)
        cases e1
        refine ⟨a5, _, c5, g, c4, rfl, hN'.row, hRW.step hb2, rfl, by rw [HZ.out], rfl, by rw [HZ.out]; exact e2, by unfold maxLen at e3; omega, e5, e6, e7, ?_⟩
        exact ((hB.trans (hb3.mono hsz)).setCell (p := ⟨g, k * 3 + 2, none⟩) e4 _)
      have HWE := Lib.hid hW
      have hNr := hN.row.step hbW
      obtain ⟨m0, m1, m2, fm⟩ : W.cell? ⟨w.heap.size + 1, 0, none⟩ = some (.slice a4 n4 c4) ∧ W.cell? ⟨w.heap.size + 1, 1, none⟩ = some (.bool d.off) ∧ W.cell? ⟨w.heap.size + 1, 2, none⟩ = some (.int .i64 d.fuse) ∧ ∀ i, W.frozen? ⟨w.heap.size + 1, i, none⟩ = false := by
        have p0 := hNr.cell 0; have p1 := hNr.cell 1; have p2 := hNr.cell 2
        simp only [List.getElem?_toArray, List.getElem?_cons_zero, List.getElem?_cons_succ] at p0 p1 p2
        exact ⟨p0, p1, p2, fun i => hNr.free i⟩
      obtain ⟨r0, r1, r2, fr⟩ := row_cells hRW
      have hlk : w.heap.size + 1 < wr.heap.size := hN.row.lt
      subst hu2
      clear g1 hc hu hf hW hbW hRW hN hB hNr
      go_wp2_with fail
      rw [← HWE.out]
      go_wp2_with fail
      go_region_with (go_at_call 43; refine (CO.out _ (Below.refl _ W).drew).mono ?_; rintro e w4 ⟨a5, n5, c5, g, cap', rfl, hq1, hq2, rfl, rfl, rfl, hle2, hmm2, hfz, ⟨u2, hcu⟩, ⟨R2, hN2⟩, hB2⟩; have HN2 := Lib.hid hN2; have HB2 := Lib.hid hB2; have p0 := hq1.cell 0; simp only [List.getElem?_toArray, List.getElem?_cons_zero] at p0; obtain ⟨r0, r1, r2, fr⟩ := row_cells hq2; clear hN2 hB2 hq1 hq2)
      all_goals
        clear p0 r0 r1 r2 fr
        go_wp2
        go_roundw
        case rel => exact ⟨k + 1, R2, by omega, by go_num, HN2.out, HB2.out⟩
        case measure => simp [intOf]; omega
    · obtain rfl : k = z := by omega
      have hbk : decide ((k : Int) < (k : Int)) = false := by simp
      have HM := Lib.hid (hN.done (by rw [← HZ.out]; exact Nat.le_refl _) (Nat.le_succ _))
      clear hN hB
      go_wp2
      go_ret
      exact ⟨w.heap.size + 1, _, _, rfl, HM.out, HB.out⟩
theorem TwoB.otherC {w W : World} {a b c a' b' c' : Value} (h : TwoB w W #[a, b, c] #[a', b', c']) {g : Nat} (hg : w.heap.size + 2 ≤ g) (i : Nat) (u : Value) : TwoB w (W.setCell ⟨g, i, none⟩ u) #[a, b, c] #[a', b', c'] :=
  ⟨h.box.other ⟨g, i, none⟩ u (fun e => by have e' : w.heap.size = g := e; omega), h.res.other ⟨g, i, none⟩ u (fun e => by have e' : w.heap.size + 1 = g := e; omega), h.below.setCell (p := ⟨g, i, none⟩) (by show w.heap.size ≤ g; omega) u⟩
structure CpI (w0 w : World) (v : Value) (R : List Dfr) (d : Dsk) (k : Nat) : Prop where
  two : TwoB w0 w #[v, .bool d.off, .int .i64 d.fuse] #[.slice none 0 0, .bool false, .int .i64 0]
  own : OwnD (w0.heap.size + 2) w v R
  len : R.length = d.fs.length
  at_ : ∀ j (h1 : j < R.length) (h2 : j < d.fs.length), R[j].n = d.fs[j].n ∧ R[j].d = d.fs[j].d ∧ (j < k → OwnP15 (w0.heap.size + 2) w (.slice R[j].a R[j].z R[j].c) d.fs[j].ops) ∧ (k ≤ j → IsOps w0 (.slice R[j].a R[j].z R[j].c) d.fs[j].ops)
section
variable {w0 w w' : World} {v : Value} {R : List Dfr} {d : Dsk} {k : Nat}
theorem CpI.stays (h : CpI w0 w v R d k) (hb : Below w.heap.size w w') : CpI w0 w' v R d k :=
  ⟨h.two.step hb, h.own.stays hb, h.len, fun j h1 h2 => ⟨(h.at_ j h1 h2).1, (h.at_ j h1 h2).2.1, fun hj => ((h.at_ j h1 h2).2.2.1 hj).stays hb, (h.at_ j h1 h2).2.2.2⟩⟩
theorem CpI.done (h : CpI w0 w v R d k) (hk : d.fs.length ≤ k) : IsDfs w v d.fs :=
  h.own.is (rows_of_get (St := RowF w) h.len fun i h1 h2 => ⟨(h.at_ i h1 h2).1, (h.at_ i h1 h2).2.1, ((h.at_ i h1 h2).2.2.1 (by omega)).is⟩) (fun r x hx => hx)
theorem CpI.row (h : CpI w0 w v R d k) (hk : k < d.fs.length) : ∃ g cap u, v = .slice (some ⟨g, 0, none⟩) d.fs.length cap ∧ d.fs.length ≤ cap ∧ cap ≤ maxLen ∧ w.cell? ⟨g, k * 3, none⟩ = some (.string (d.fs[k]).n) ∧ w.cell? ⟨g, k * 3 + 1, none⟩ = some (.string (d.fs[k]).d) ∧ w.cell? ⟨g, k * 3 + 2, none⟩ = some u ∧ IsOps w0 u (d.fs[k]).ops := by
  have hkR : k < R.length := by rw [h.len]; exact hk
  rcases h.own.2 with ⟨_, h0⟩ | ⟨g, cap, cur, rfl, hbg, hg, hle, hm, _⟩
  · rw [h0] at hkR; exact absurd hkR (by simp)
  obtain ⟨_, a1, c1, e1, _, hc1⟩ := h.own.rws
  cases e1
  obtain ⟨b2, o2, e2, _, g2⟩ := hc1 (by omega)
  cases e2
  obtain ⟨q0, q1, q2⟩ := g2 k hkR
  rw [Nat.zero_add] at q0 q1 q2
  obtain ⟨e1, e2, _, e4⟩ := h.at_ k hkR hk
  exact ⟨g, cap, _, by rw [h.len], by rw [← h.len]; exact hle, hm, by rw [q0, e1], by rw [q1, e2], q2, e4 (Nat.le_refl _)⟩
theorem CpI.next (h : CpI w0 w v R d k) (hk : k < d.fs.length) {a : Option Addr} {z c : Nat} (ho : OwnP15 (w0.heap.size + 2) w (.slice a z c) (d.fs[k]).ops) : ∃ g cap, v = .slice (some ⟨g, 0, none⟩) d.fs.length cap ∧
    w.frozen? ⟨g, k * 3 + 2, none⟩ = false ∧ (∃ u, w.cell? ⟨g, k * 3 + 2, none⟩ = some u) ∧ ∃ R', CpI w0 (w.setCell ⟨g, k * 3 + 2, none⟩ (.slice a z c)) v R' d (k + 1) := by
  have hkR : k < R.length := by rw [h.len]; exact hk
  rcases h.own.2 with ⟨_, h0⟩ | ⟨g, cap, cur, rfl, hbg, hg, hle, hm, _⟩
  · rw [h0] at hkR; exact absurd hkR (by simp)
  obtain ⟨o1, o2, o3, o4⟩ := ownD_ops h.own hkR a z c
  have hgr : w.grownBy (w.setCell ⟨g, k * 3 + 2, none⟩ (.slice a z c)) (some g) := grownBy_set_Dlh w g _ _
  have hrow : ∀ g', some g = some g' → ∃ xs T, Row w g' xs T ∧ T ≠ 59 := fun g' e => by cases e; exact ⟨_, _, hg, by decide⟩
  refine ⟨g, cap, by rw [h.len], o3, ⟨_, o2⟩, _, ⟨h.two.otherC hbg _ _, o1, by rw [List.length_set]; exact h.len, fun j h1 h2 => ?_⟩⟩
  rw [List.length_set] at h1
  obtain ⟨g1, g2, g3, g4⟩ := h.at_ j h1 h2
  rw [List.getElem_set]
  by_cases e : k = j
  · subst e
    rw [if_pos rfl]
    exact ⟨g1, g2, fun _ => ho.turn hgr hrow, fun hj => absurd hj (by omega)⟩
  · rw [if_neg e]
    exact ⟨g1, g2, fun hj => (g3 (by omega)).turn hgr hrow, fun hj => g4 (by omega)⟩
end
def RetK (d : Dsk) (w : World) (e : Ending) (w' : World) : Prop := ∃ (a : Option Addr) (z c : Nat), e = .returned (.agg #[.slice a z c, .bool d.off, .int .i64 d.fuse]) ∧ IsDfs w' (.slice a z c) d.fs ∧ Below w.heap.size w w'
set_option maxRecDepth 100000 in
set_option maxHeartbeats 4000000 in
theorem copied_any (d : Dsk) (v0 : Value) (w0 : World) (h : IsDfs w0 v0 d.fs) (hl : d.fs.length ≤ 1000) (ho : ∀ f ∈ d.fs, f.ops.length ≤ 1000) :
    Calls Tryz.prog 20 #[dskV v0 d] w0 (RetK d w0) := by
  obtain ⟨_, a, cap, hu, _, _⟩ := id h
  obtain ⟨z, hz⟩ : ∃ z, z = d.fs.length := ⟨_, rfl⟩
  rw [← hz] at hu hl
  have HZ := Lib.hid hz
  subst hu
  obtain ⟨V, hV⟩ : ∃ V, V = (w0.alloc (.cells #[.slice a z cap, .bool d.off, .int .i64 d.fuse] 28)).alloc (.cells #[.slice none 0 0, .bool false, .int .i64 0] 28) := ⟨_, rfl⟩
  have hT := twoB_new w0 a z cap d.off d.fuse
  rw [← hV] at hT
  have hV2 : V.heap.size = w0.heap.size + 2 := by rw [hV]; simp
  have HV := Lib.hid hV
  obtain ⟨R0, hR0, hS0⟩ := h.rws
  have CC : Hid (Calls Tryz.prog 42 #[.slice a z cap] V fun e w' => ∃ a4 n4 c4, e = .returned (.slice a4 n4 c4) ∧ TwoB w0 w' #[.slice a z cap, .bool d.off, .int .i64 d.fuse] #[.slice none 0 0, .bool false, .int .i64 0] ∧
      CpI w0 (w'.setCell ⟨w0.heap.size, 0, none⟩ (.slice a4 n4 c4)) (.slice a4 n4 c4) R0 d 0 ∧ n4 = z) := Lib.hid (by
    refine (dClone_any (.slice a z cap) R0 V (hR0.stays hT.below) (by rw [hS0.len]; omega)).mono ?_
    rintro e w' ⟨v', rfl, hown, hb⟩
    obtain ⟨a4, n4, c4, rfl⟩ := hown.len
    rw [hV2] at hown
    have hT' := hT.step hb
    refine ⟨a4, n4, c4, rfl, hT', ⟨hT'.set0, ownD_set hown (by omega), hS0.len, fun j g1 g2 => ?_⟩, ?_⟩
    · have := hS0.get j g1 g2
      exact ⟨this.1, this.2.1, fun hj => absurd hj (by omega), fun _ => this.2.2⟩
    · rcases hown.2 with ⟨e1, h0⟩ | ⟨g, cap, cur, e1, _⟩
      · cases e1; rw [← h0, hS0.len, hz]
      · cases e1; rw [hS0.len, hz])
  have HOPS : Hid (∀ k (hk : k < d.fs.length), (d.fs[k]).ops.length ≤ 1000) := Lib.hid fun k hk => ho _ (List.getElem_mem hk)
  have hzz : z ≤ 9223372036854775807 := by omega
  obtain ⟨⟨p0, p1, p2⟩, ⟨r0, r1, r2⟩, fz0, fz1⟩ := hT.cells
  clear hV hT h hz hR0 hS0 ho hV2
  unfold dskV
  go_enter Tryz.func20, Tryz.ntmps20
  go_wp2_with fail
  rw [← HV.out]
  go_wp2_with fail
  refine CC.out.mono ?_
  rintro e w1 ⟨a4, n4, c4, rfl, hT1, hN, rfl⟩
  have HN := Lib.hid hN
  clear p0 p1 p2 r0 r1 r2 fz0 fz1
  obtain ⟨⟨p0, p1, p2⟩, ⟨r0, r1, r2⟩, fz0, fz1⟩ := hT1.cells
  clear hT1 hN
  go_wp2_with fail
  go_loopw [12] (fun i wr => ∃ (k : Nat) (R : List Dfr), k ≤ n4 ∧ i = .int .i64 k ∧ CpI w0 wr (.slice a4 n4 c4) R d k) (fun i _ => n4 - (intOf i).toNat)
  case atStart => exact ⟨0, R0, Nat.zero_le _, rfl, HN.out⟩
  case round =>
    clear HN p0 p1 p2 r0 r1 r2 fz0 fz1
    obtain ⟨k, R, hk, rfl, hN⟩ := hrel
    have HN := Lib.hid hN
    by_cases hlt : k < n4
    · have hko : k < d.fs.length := by have := HZ.out; omega
      obtain ⟨g, cap4, u, hev, hcl, hcm, c0, c1, c2, hu⟩ := hN.row hko
      rw [← HZ.out] at hev hcl
      cases hev
      have hops := HOPS.out k hko
      obtain ⟨f, hf⟩ : ∃ f, f = d.fs[k]'hko := ⟨_, rfl⟩
      rw [← hf] at c0 c1 hu hops
      have hbk : decide ((k : Int) < (n4 : Int)) = true := by simpa using (show (k : Int) < n4 by omega)
      have hsz : w0.heap.size + 2 ≤ wr.heap.size := by have := hN.two.lt; omega
      have hc4 : c4 ≤ 9223372036854775807 := by unfold maxLen at hcm; omega
      obtain ⟨W, hW⟩ : ∃ W, W = wr.alloc (.cells #[.string f.n, .string f.d, u] 56) := ⟨_, rfl⟩
      have hbW : Below wr.heap.size wr W := by rw [hW]; exact (Below.refl _ _).alloc (Nat.le_refl _) _
      have hRW : Row W wr.heap.size #[.string f.n, .string f.d, u] 56 := by rw [hW]; exact Row.made _ _ _
      obtain ⟨a2, cap2, hu2⟩ := hu.len
      have CO : Hid (∀ W2, Below W.heap.size W W2 → Calls Tryz.prog 43 #[u] W2 fun e w' => ∃ a5 n5 c5, e = .returned (.slice a5 n5 c5) ∧ TwoB w0 w' #[.slice (some ⟨g, 0, none⟩) n4 c4, .bool d.off, .int .i64 d.fuse] #[.slice none 0 0, .bool false, .int .i64 0] ∧
          Row w' wr.heap.size #[.string f.n, .string f.d, u] 56 ∧ w'.frozen? ⟨g, k * 3 + 2, none⟩ = false ∧ (∃ u, w'.cell? ⟨g, k * 3 + 2, none⟩ = some u) ∧
          ∃ R', CpI w0 (w'.setCell ⟨g, k * 3 + 2, none⟩ (.slice a5 n5 c5)) (.slice (some ⟨g, 0, none⟩) n4 c4) R' d (k + 1)) := Lib.hid fun W2 hW2 => by
        refine (opClone_any u f.ops W2 (((hu.stays hN.two.below).stays hbW).stays hW2) (by omega)).mono ?_
        rintro e w' ⟨v', rfl, hown, hb⟩
        have hb2 := below_step hW2 hb
        have hN' := hN.stays (below_step hbW hb2)
        obtain ⟨a5, c5, rfl⟩ := hown.is.len
        have hown' : OwnP15 (w0.heap.size + 2) w' (.slice a5 f.ops.length c5) (d.fs[k]'hko).ops := by rw [← hf]; exact hown.low (Nat.le_trans hsz (Nat.le_trans hbW.size hW2.size))
        obtain ⟨g', cap', e1, e5, e6, e7⟩ := hN'.next hko hown'
        cases e1
        exact ⟨a5, _, c5, rfl, hN'.two, hRW.step hb2, e5, e6, e7⟩
      have HWE := Lib.hid hW
      have hTW := hN.two.step hbW
      obtain ⟨⟨p0, p1, p2⟩, ⟨s0, s1, s2⟩, fz0, fz1⟩ := hTW.cells
      obtain ⟨r0, r1, r2, fr⟩ := row_cells hRW
      have hlk : w0.heap.size + 1 < wr.heap.size := hN.two.lt
      subst hu2
      clear hu hf hW hbW hRW hN hTW hcm
      go_wp2_with fail
      rw [← HWE.out]
      go_wp2_with fail
      go_region_with (go_at_call 43; refine (CO.out _ (Below.refl _ W).drew).mono ?_; rintro e w4 ⟨a5, n5, c5, rfl, hq1, hq2, hfz, ⟨u2, hcu⟩, ⟨R2, hN2⟩⟩; have HN2 := Lib.hid hN2; obtain ⟨⟨p0, p1, p2⟩, ⟨s0, s1, s2⟩, fz0, fz1⟩ := hq1.cells; obtain ⟨r0, r1, r2, fr⟩ := row_cells hq2; clear hN2 hq1 hq2)
      all_goals
        clear p0 p1 p2 s0 s1 s2 fz0 fz1 r0 r1 r2 fr
        go_wp2
        go_roundw
        case rel => exact ⟨k + 1, R2, by omega, by go_num, HN2.out⟩
        case measure => simp [intOf]; omega
    · obtain rfl : k = n4 := by omega
      have hbk : decide ((k : Int) < (k : Int)) = false := by simp
      have hD := hN.done (by rw [← HZ.out]; exact Nat.le_refl _)
      have HDR := Lib.hid (dfs_put_Wlc (x := .slice a4 k c4) (y := .bool d.off) (z := .int .i64 d.fuse) hN.two.res hD)
      have HTR := Lib.hid (hN.two.put1 (a' := .slice a4 k c4) (b' := .bool d.off) (c' := .int .i64 d.fuse))
      obtain ⟨⟨p0, p1, p2⟩, ⟨r0, r1, r2⟩, fz0, fz1⟩ := hN.two.cells
      unfold putB at HDR HTR
      clear hN hD
      go_wp2_with fail
      obtain ⟨_, ⟨r0', r1', r2'⟩, _, _⟩ := HTR.out.cells
      exact bodyPost_ret (v := .agg #[.slice a4 k c4, .bool d.off, .int .i64 d.fuse]) (by simp [results, Tryz.results20, go_sem, r0', r1', r2']) rfl ⟨a4, k, c4, rfl, HDR.out, HTR.out.below⟩
def ActV (w : World) (v : Value) (f : Dsk → Dsk × Int) : Prop := ∃ (fk : FuncId) (cap : Array Value), v = .func (.func fk) #[] cap ∧ Enters Tryz.prog fk ∧ (∀ d, FitD nameB d → FitD nameB (f d).1) ∧
  ∀ W, Below w.heap.size w W → ∀ (d : Dsk) (u : Value), IsDfs W u d.fs → FitD nameB d → Calls Tryz.prog fk (#[dskV u d] ++ cap) W (RetD (f d) W)
theorem ActV.stays {w w' : World} {v : Value} {f : Dsk → Dsk × Int} (h : ActV w v f) (hb : Below w.heap.size w w') : ActV w' v f := by
  obtain ⟨fk, cap, h1, h2, h3, h4⟩ := h
  exact ⟨fk, cap, h1, h2, h3, fun W hW => h4 W (below_step hb hW)⟩
def IsActs (w : World) (v : Value) (F : List (Dsk → Dsk × Int)) : Prop := F.length ≤ 1000 ∧ ∃ (b off cap : Nat), v = .slice (some ⟨b, off, none⟩) F.length cap ∧ F.length ≤ cap ∧ b < w.heap.size ∧ ∀ i (h : i < F.length), ∃ u, w.cell? ⟨b, off + i, none⟩ = some u ∧ ActV w u F[i]
theorem IsActs.stays {w w' : World} {v : Value} {F : List (Dsk → Dsk × Int)} (h : IsActs w v F) (hb : Below w.heap.size w w') : IsActs w' v F := by
  obtain ⟨h0, b, off, cap, h1, h2, h3, h4⟩ := h
  refine ⟨h0, b, off, cap, h1, h2, Nat.lt_of_lt_of_le h3 hb.size, fun i hi => ?_⟩
  obtain ⟨u, g1, g2⟩ := h4 i hi
  exact ⟨u, (hb.cell (p := ⟨b, _, none⟩) h3).trans g1, g2.stays hb⟩
def chainD : List (Dsk → Dsk × Int) → Dsk → Dsk × Int
  | [], d => (d, 0)
  | f :: F, d => if (f d).2 = 0 then chainD F (f d).1 else f d
theorem chainD_cons (f : Dsk → Dsk × Int) (F : List (Dsk → Dsk × Int)) (d : Dsk) : chainD (f :: F) d = if (f d).2 = 0 then chainD F (f d).1 else f d := rfl
set_option maxRecDepth 100000 in
set_option maxHeartbeats 8000000 in
theorem chain_any (F : List (Dsk → Dsk × Int)) (av : Value) (d : Dsk) (v0 : Value) (w0 : World) (h : IsDfs w0 v0 d.fs) (hf : FitD nameB d) (ha : IsActs w0 av F) :
    Calls Tryz.prog 21 #[dskV v0 d, av] w0 (RetD (chainD F d) w0) := by
  have HA := Lib.hid ha
  obtain ⟨hn, ab, aoff, acap, hau, hac, _, _⟩ := ha
  obtain ⟨n, hnn⟩ : ∃ n, n = F.length := ⟨_, rfl⟩
  rw [← hnn] at hau hac hn
  have HN := Lib.hid hnn
  subst hau
  obtain ⟨_, a, cap, hu, _, _⟩ := id h
  obtain ⟨z, hz⟩ : ∃ z, z = d.fs.length := ⟨_, rfl⟩
  rw [← hz] at hu
  subst hu
  obtain ⟨V, hV⟩ : ∃ V, V = (w0.alloc (.cells #[.slice a z cap, .bool d.off, .int .i64 d.fuse] 28)).alloc (.cells #[.slice none 0 0, .bool false, .int .i64 0] 28) := ⟨_, rfl⟩
  have hT := twoB_new w0 a z cap d.off d.fuse
  rw [← hV] at hT
  have HV := Lib.hid hV; have HT := Lib.hid hT
  have CC := Lib.hid (copied_any d (.slice a z cap) V (h.stays hT.below) (Nat.le_trans hf.many (by decide)) fun f hm => Nat.le_trans (hf.files f hm).many (by decide))
  have HF := Lib.hid hf
  have CI := Lib.hid is_errno
  obtain ⟨⟨p0, p1, p2⟩, ⟨r0, r1, r2⟩, fz0, fz1⟩ := hT.cells
  unfold dskV at CC ⊢
  clear hV hT h hz hf hnn
  go_enter Tryz.func21, Tryz.ntmps21
  go_wp2_with fail
  rw [← HV.out]
  go_wp2_with fail
  refine CC.out.mono ?_
  rintro e w1 ⟨a1, z1, c1, rfl, h1, hb1⟩
  have hT1 := HT.out.step hb1
  have HI1 := Lib.hid (dfs_put_Wlc (x := .slice a1 z1 c1) (y := .bool d.off) (z := .int .i64 d.fuse) hT1.box h1)
  have HT1 := Lib.hid (hT1.put0 (a' := .slice a1 z1 c1) (b' := .bool d.off) (c' := .int .i64 d.fuse))
  clear p0 p1 p2 r0 r1 r2 fz0 fz1
  obtain ⟨⟨p0, p1, p2⟩, ⟨r0, r1, r2⟩, fz0, fz1⟩ := hT1.cells
  unfold putB at HI1 HT1
  clear hb1 h1 hT1 HT HV CC
  go_wp2_with fail
  go_loopw [14] (fun i wr => ∃ (k : Nat) (d1 : Dsk) (a1 : Option Addr) (z1 c1 : Nat), k ≤ n ∧ i = .int .i64 k ∧ FitD nameB d1 ∧ chainD F d = chainD (F.drop k) d1 ∧ IsDfs wr (.slice a1 z1 c1) d1.fs ∧ TwoB w0 wr #[.slice a1 z1 c1, .bool d1.off, .int .i64 d1.fuse] #[.slice none 0 0, .bool false, .int .i64 0]) (fun i _ => n - (intOf i).toNat)
  case atStart => exact ⟨0, d, a1, z1, c1, Nat.zero_le _, rfl, HF.out, rfl, HI1.out, HT1.out⟩
  case round =>
    clear HI1 HT1 p0 p1 p2 r0 r1 r2 fz0 fz1 HF
    obtain ⟨k, d1, a2, z2, c2, hk, rfl, hf1, hch, hI2, hT2⟩ := hrel
    have HF1 := Lib.hid hf1; have HCH := Lib.hid hch; have HI2 := Lib.hid hI2; have HT2 := Lib.hid hT2
    obtain ⟨⟨p0, p1, p2⟩, ⟨r0, r1, r2⟩, fz0, fz1⟩ := hT2.cells
    by_cases hlt : k < n
    · have hko : k < F.length := by have := HN.out; omega
      obtain ⟨_, _, _, _, hev, _, hbl, g⟩ := HA.out.stays hT2.below
      rw [← HN.out] at hev
      cases hev
      obtain ⟨u, q0, fk, cp, rfl, hE, hfit, hact⟩ := g k hko
      have hbk : decide ((k : Int) < (n : Int)) = true := by simpa using (show (k : Int) < n by omega)
      obtain ⟨f, hfe⟩ : ∃ f, f = F[k]'hko := ⟨_, rfl⟩
      rw [← hfe] at hfit hact
      have hdk : F.drop k = f :: F.drop (k + 1) := by rw [List.drop_eq_getElem_cons hko, hfe]
      have C1 := hact wr (Below.refl _ _) d1 (.slice a2 z2 c2) hI2 hf1
      have hfr := hfit d1 hf1
      rw [hdk] at hch
      obtain ⟨⟨⟨fs3, o3, u3⟩, e3⟩, hr⟩ : ∃ r, r = f d1 := ⟨_, rfl⟩
      have hch2 : chainD F d = if e3 = 0 then chainD (F.drop (k + 1)) ⟨fs3, o3, u3⟩ else (⟨fs3, o3, u3⟩, e3) := by rw [hch, chainD_cons, ← hr]
      rw [← hr] at C1 hfr
      unfold dskV at C1
      have HC1 := Lib.hid C1; have HFR := Lib.hid hfr; have HCH2 := Lib.hid hch2
      unfold Enters at hE
      clear hfit hact hfe hdk hr C1 hfr hch hch2 g hbl hI2 hT2 hf1 hko
      go_wp2_with fail
      refine HC1.out.mono ?_
      rintro e w3 hr3
      obtain ⟨a4, z4, c4, rfl, h4, hb4⟩ := hr3.open_Wlc
      dsimp only at h4
      obtain ⟨X, hX⟩ : ∃ X, X = w3.alloc (.cells #[.slice a4 z4 c4, .bool o3, .int .i64 u3] 28) := ⟨_, rfl⟩
      have hbX : Below w3.heap.size w3 X := by rw [hX]; exact (Below.refl _ _).alloc (Nat.le_refl _) _
      have hRX : Row X w3.heap.size #[.slice a4 z4 c4, .bool o3, .int .i64 u3] 28 := by rw [hX]; exact Row.made _ _ _
      have HX := Lib.hid hX
      have hT5 := (HT2.out.step hb4).step hbX
      have HS34 : Hid (wr.heap.size ≤ w3.heap.size) := Lib.hid hb4.size
      have HI5 := Lib.hid (h4.stays hbX); have HT5 := Lib.hid hT5; have HRX := Lib.hid hRX
      clear p0 p1 p2 r0 r1 r2 fz0 fz1 hX hb4 h4 hr3 hT5 hRX hbX
      go_wp2_with fail
      rw [← HX.out]
      refine (CI.out e3 0 X).mono ?_
      rintro e w6 ⟨rfl, hb6⟩
      have hT6 := HT5.out.step hb6
      have hI6 := HI5.out.stays hb6
      have hR6 := HRX.out.step hb6
      obtain ⟨⟨p0, p1, p2⟩, ⟨r0, r1, r2⟩, fz0, fz1⟩ := hT6.cells
      have s0 := hR6.cell 0; have s1 := hR6.cell 1; have s2 := hR6.cell 2
      simp only [List.getElem?_toArray, List.getElem?_cons_zero, List.getElem?_cons_succ] at s0 s1 s2
      have hlt6 : w0.heap.size + 1 < w3.heap.size := by have h1 := HT2.out.lt; have h2 := HS34.out; omega
      by_cases he : e3 = 0
      · have hb : (e3 == 0) = true := by simpa using he
        have HCH3 : Hid (chainD F d = chainD (F.drop (k + 1)) ⟨fs3, o3, u3⟩) := Lib.hid (by rw [HCH2.out, if_pos he])
        have HI7 := Lib.hid (dfs_put_Wlc (x := .slice a4 z4 c4) (y := .bool o3) (z := .int .i64 u3) hT6.box hI6)
        have HT7 := Lib.hid (hT6.put0 (a' := .slice a4 z4 c4) (b' := .bool o3) (c' := .int .i64 u3))
        unfold putB at HI7 HT7
        clear hT6 hI6 hR6 hb6 he HCH2
        go_wp2_with fail
        go_roundw
        case rel => exact ⟨k + 1, ⟨fs3, o3, u3⟩, a4, z4, c4, by omega, by go_num, HFR.out, HCH3.out, HI7.out, HT7.out⟩
        case measure => simp [intOf]; omega
      · have hb : (e3 == 0) = false := by simpa using he
        have HCH3 : Hid (chainD F d = (⟨fs3, o3, u3⟩, e3)) := Lib.hid (by rw [HCH2.out, if_neg he])
        have HI7 := Lib.hid (dfs_put_Wlc (x := .slice a4 z4 c4) (y := .bool o3) (z := .int .i64 u3) hT6.res hI6)
        have HT7 := Lib.hid (hT6.put1 (a' := .slice a4 z4 c4) (b' := .bool o3) (c' := .int .i64 u3))
        unfold putB at HI7 HT7
        clear hT6 hI6 hR6 hb6 he HCH2
        go_wp2_with fail
        obtain ⟨_, ⟨r0', r1', r2'⟩, _, _⟩ := HT7.out.cells
        exact bodyPost_ret (v := .tuple #[.agg #[.slice a4 z4 c4, .bool o3, .int .i64 u3], .int .i64 e3]) (by simp [results, Tryz.results21, go_sem, r0', r1', r2']) rfl ⟨.slice a4 z4 c4, by rw [HCH3.out]; rfl, by rw [HCH3.out]; exact HI7.out, HT7.out.below⟩
    · obtain rfl : k = n := by omega
      have hbk : decide ((k : Int) < (k : Int)) = false := by simp
      have HCH3 : Hid (chainD F d = (d1, 0)) := Lib.hid (by rw [hch, List.drop_eq_nil_of_le (by rw [← HN.out]; exact Nat.le_refl _)]; rfl)
      have HI7 := Lib.hid (dfs_put_Wlc (x := .slice a2 z2 c2) (y := .bool d1.off) (z := .int .i64 d1.fuse) hT2.res hI2)
      have HT7 := Lib.hid (hT2.put1 (a' := .slice a2 z2 c2) (b' := .bool d1.off) (c' := .int .i64 d1.fuse))
      unfold putB at HI7 HT7
      clear hT2 hI2 hch hf1
      go_wp2_with fail
      obtain ⟨_, ⟨r0', r1', r2'⟩, _, _⟩ := HT7.out.cells
      exact bodyPost_ret (v := .tuple #[.agg #[.slice a2 z2 c2, .bool d1.off, .int .i64 d1.fuse], .int .i64 0]) (by simp [results, Tryz.results21, go_sem, r0', r1', r2']) rfl ⟨.slice a2 z2 c2, by rw [HCH3.out]; rfl, by rw [HCH3.out]; exact HI7.out, HT7.out.below⟩
def wrongW (d : Dsk) (n : ByteArray) (a : Int) (s : ByteArray) : Int := if nameB n.data.toList = false then 7 else if ¬ (0 ≤ a ∧ a + s.size ≤ 262144) then 4 else if fullD d n s then 9 else 0
def wrongR (d : Dsk) (n m : ByteArray) : Int := if nameB m.data.toList = false then 7 else if (getF d.fs n.data.toList).isSome then 0 else 5
theorem fullD_none {d : Dsk} {n s : ByteArray} (h : getF d.fs n.data.toList = none) : fullD d n s ↔ 8 ≤ d.fs.length := by unfold fullD; rw [h]
theorem fullD_some {d : Dsk} {n s : ByteArray} {f : Dfl} (h : getF d.fs n.data.toList = some f) : fullD d n s ↔ s.size ≠ 0 ∧ 200 ≤ f.ops.length := by unfold fullD; rw [h]
set_option maxRecDepth 100000 in
theorem wrongRename_any {B kb : Nat} {v : Value} {R : List Dfr} {d : Dsk} (s t : ByteArray) (w : World) (h : Mch B kb w v R d) (hr : d.fs.Pairwise fun x y => x.t < y.t) (hl : d.fs.length ≤ 1000000) :
    Calls Tryz.prog 76 #[.pointer (some ⟨kb, 0, none⟩), .string s, .string t] w fun e w' => e = .returned (.int .i64 (wrongR d s t)) ∧ Below w.heap.size w w' := by
  have CN := Lib.hid (Name_any t w)
  have CM := Lib.hid (fun W (hW : Below w.heap.size w W) => missing_any s W (h.stays hW) hr hl)
  rcases hn : nameB t.data.toList with _ | _
  · have HR : Hid (wrongR d s t = 7) := Lib.hid (if_pos hn)
    rw [hn] at CN
    clear hn
    go_enter Tryz.func76, Tryz.ntmps76
    go_wp2_with fail
    refine CN.out.mono ?_
    rintro e w1 ⟨rfl, hb⟩
    go_wp2
    go_ret
    exact ⟨by rw [HR.out]; rfl, hb⟩
  · have HR : Hid (wrongR d s t = if (getF d.fs s.data.toList).isSome then 0 else 5) := Lib.hid (if_neg (by rw [hn]; simp))
    rw [hn] at CN
    clear hn
    obtain ⟨m, hm⟩ : ∃ m : Int, m = if (getF d.fs s.data.toList).isSome then 0 else 5 := ⟨_, rfl⟩
    rw [← hm] at CM HR
    clear hm
    go_enter Tryz.func76, Tryz.ntmps76
    go_wp2_with fail
    refine CN.out.mono ?_
    rintro e w1 ⟨rfl, hb⟩
    have HB := Lib.hid hb
    clear hb
    go_wp2_with fail
    refine (CM.out _ HB.out).mono ?_
    rintro e w2 ⟨rfl, hb2⟩
    go_wp2
    go_ret
    exact ⟨by rw [HR.out]; rfl, below_step HB.out hb2⟩
set_option maxRecDepth 100000 in
set_option maxHeartbeats 4000000 in
theorem wrongWrite_any {B kb : Nat} {v : Value} {R : List Dfr} {d : Dsk} (n : ByteArray) (a : Int) (s : ByteArray) (w : World) (h : Mch B kb w v R d) (hr : d.fs.Pairwise fun x y => x.t < y.t) (hl : d.fs.length ≤ 1000000) (ha : a ≤ 9223372036854775807) (hs : s.size ≤ 1000000000) :
    Calls Tryz.prog 65 #[.pointer (some ⟨kb, 0, none⟩), .string n, .int .i64 a, .string s] w fun e w' => e = .returned (.int .i64 (wrongW d n a s)) ∧ Below w.heap.size w w' := by
  have CP := Lib.hid (place_any_Dlh (B := B) n w h.own.rws h.cell.1 h.names hr (by rw [h.rows.len]; exact hl))
  have CN := Lib.hid (fun W => Name_any n W)
  have CI := Lib.hid (fun W => inside_any a s W ha hs)
  have HM := Lib.hid h
  have HAT := Lib.hid (getF_cnt hr n.data.toList)
  obtain ⟨k, hk⟩ : ∃ k, k = cntF d.fs n.data.toList := ⟨_, rfl⟩
  have HK := Lib.hid hk
  rw [← hk] at CP
  clear hk
  rcases hn : nameB n.data.toList with _ | _
  · have HR : Hid (wrongW d n a s = 7) := Lib.hid (if_pos hn)
    rw [hn] at CN
    clear hn h
    go_enter Tryz.func65, Tryz.ntmps65
    go_wp2_with fail
    refine CP.out.mono ?_
    rintro e w1 ⟨rfl, hb⟩
    have HB := Lib.hid hb
    clear hb
    go_wp2_with fail
    refine (CN.out _).mono ?_
    rintro e w2 ⟨rfl, hb2⟩
    go_wp2
    go_ret
    exact ⟨by rw [HR.out]; rfl, below_step HB.out hb2⟩
  by_cases hin : 0 ≤ a ∧ a + s.size ≤ 262144
  · have hin2 := decide_eq_true hin
    have HR : Hid (wrongW d n a s = if fullD d n s then 9 else 0) := Lib.hid (by unfold wrongW; rw [if_neg (by rw [hn]; simp), if_neg (by simpa using hin)])
    rw [hn] at CN
    rw [hin2] at CI
    clear hn hin hin2
    cases hg : getF d.fs n.data.toList with
    | none =>
      have HF := Lib.hid (fullD_none (s := s) hg)
      rw [hg] at CP
      clear hg
      obtain ⟨_, a1, cap1, hv1, _, _⟩ := h.own.rws
      have hlen := h.rows.len
      rw [hlen] at hv1
      subst hv1
      have hb8 : decide ((d.fs.length : Int) ≥ 8) = decide (8 ≤ d.fs.length) := by apply decide_eq_decide.2; omega
      by_cases h8 : 8 ≤ d.fs.length
      · have HR2 : Hid (wrongW d n a s = 9) := Lib.hid (by rw [HR.out, if_pos (HF.out.2 h8)])
        have hd8 : decide (8 ≤ (d.fs.length : Int)) = true := decide_eq_true (by omega)
        clear hb8 h8 h hlen HF HR
        go_enter Tryz.func65, Tryz.ntmps65
        go_wp2_with fail
        refine CP.out.mono ?_
        rintro e w1 ⟨rfl, hb⟩
        have HB := Lib.hid hb
        clear hb
        go_wp2_with fail
        refine (CN.out _).mono ?_
        rintro e w2 ⟨rfl, hb2⟩
        have HB2 := Lib.hid (below_step HB.out hb2)
        clear hb2
        go_wp2_with fail
        refine (CI.out _).mono ?_
        rintro e w3 ⟨rfl, rfl⟩
        obtain ⟨m0, m1, m2, fm⟩ := (HM.out.stays HB2.out).cell
        go_wp2
        go_ret
        exact ⟨by rw [HR2.out]; rfl, HB2.out⟩
      · have HR2 : Hid (wrongW d n a s = 0) := Lib.hid (by rw [HR.out, if_neg (fun c => h8 (HF.out.1 c))])
        have hd8 : decide (8 ≤ (d.fs.length : Int)) = false := decide_eq_false (by omega)
        clear hb8 h8 h hlen HF HR
        go_enter Tryz.func65, Tryz.ntmps65
        go_wp2_with fail
        refine CP.out.mono ?_
        rintro e w1 ⟨rfl, hb⟩
        have HB := Lib.hid hb
        clear hb
        go_wp2_with fail
        refine (CN.out _).mono ?_
        rintro e w2 ⟨rfl, hb2⟩
        have HB2 := Lib.hid (below_step HB.out hb2)
        clear hb2
        go_wp2_with fail
        refine (CI.out _).mono ?_
        rintro e w3 ⟨rfl, rfl⟩
        obtain ⟨m0, m1, m2, fm⟩ := (HM.out.stays HB2.out).cell
        go_wp2
        go_ret
        exact ⟨by rw [HR2.out]; rfl, HB2.out⟩
    | some f =>
      have HF := Lib.hid (fullD_some (s := s) hg)
      obtain ⟨hkl, hkf⟩ : ∃ h : k < d.fs.length, d.fs[k] = f := by
        rcases HAT.out with ⟨h1, h2, h3⟩ | ⟨h1, _⟩
        · rw [← HK.out] at h1
          refine ⟨h1, ?_⟩
          simp only [HK.out]
          rw [hg] at h3
          exact (Option.some.inj h3).symm
        · rw [hg] at h1; cases h1
      have hkR : k < R.length := by rw [h.rows.len]; exact hkl
      have HRK : Hid (∀ W, Below w.heap.size w W → RowP B W (R[k]'hkR) f) := Lib.hid fun W hW => by
        have := (h.rows.get k hkR hkl).stays hW
        rwa [hkf] at this
      rw [hg] at CP
      have hlR := h.rows.len
      clear hg hkf h HAT
      obtain ⟨y, hy⟩ : ∃ y, y = R[k]'hkR := ⟨_, rfl⟩
      rw [← hy] at HRK
      have HY := Lib.hid hy
      have hyz : y.z = f.ops.length := by
        obtain ⟨_, _, e⟩ := (HRK.out w (Below.refl _ _)).2.2.is.len
        exact (Value.slice.inj e).2.1
      obtain ⟨yn, yd, ya, yz, yc⟩ := y
      dsimp only at hyz HRK
      subst hyz
      have hbk : decide ((k : Int) < (R.length : Int)) = true := decide_eq_true (by omega)
      have hl9 : R.length ≤ 9223372036854775807 := by omega
      clear hy
      have HRWS : Hid (∀ W, Below w.heap.size w W → IsRws W v R) := Lib.hid fun W hW => HM.out.own.rws.stays hW
      by_cases h2 : 200 ≤ f.ops.length
      · have hd2 : decide (200 ≤ (f.ops.length : Int)) = true := decide_eq_true (by omega)
        by_cases h0 : s.size = 0
        · have HR2 : Hid (wrongW d n a s = 0) := Lib.hid (by rw [HR.out, if_neg (fun c => (HF.out.1 c).1 h0)])
          have e0 : (s.toList == (⟨#[]⟩ : ByteArray).toList) = true := by rw [empty_str]; exact decide_eq_true h0
          have e1 : s.toList.isEmpty = true := by rw [Lib.toList_data, List.isEmpty_iff]; exact List.eq_nil_of_length_eq_zero (by rw [dsize]; exact h0)
          clear h0 h2 HF HR
          go_enter Tryz.func65, Tryz.ntmps65
          go_wp2_with fail
          refine CP.out.mono ?_
          rintro e w1 ⟨rfl, hb⟩
          have HB := Lib.hid hb
          clear hb
          go_wp2_with fail
          refine (CN.out _).mono ?_
          rintro e w2 ⟨rfl, hb2⟩
          have HB2 := Lib.hid (below_step HB.out hb2)
          clear hb2
          go_wp2_with fail
          refine (CI.out _).mono ?_
          rintro e w3 ⟨rfl, rfl⟩
          obtain ⟨m0, m1, m2, fm⟩ := (HM.out.stays HB2.out).cell
          obtain ⟨_, a1, cap1, hv1, _, hc1⟩ := HRWS.out w2 HB2.out
          subst hv1
          obtain ⟨b1, o1, rfl, hbl, g1⟩ := hc1 (by omega)
          obtain ⟨c0, c1, c2⟩ := g1 k hkR
          rw [← HY.out] at c0 c1 c2
          dsimp only at c0 c1 c2
          clear g1 hc1
          go_wp2
          go_ret
          exact ⟨by rw [HR2.out]; rfl, HB2.out⟩
        · have HR2 : Hid (wrongW d n a s = 9) := Lib.hid (by rw [HR.out, if_pos (HF.out.2 ⟨h0, h2⟩)])
          have e0 : (s.toList == (⟨#[]⟩ : ByteArray).toList) = false := by rw [empty_str]; exact decide_eq_false h0
          have e1 : s.toList.isEmpty = false := by
            rw [Lib.toList_data]
            cases he : s.data.toList with
            | nil => exact absurd (by rw [← dsize, he]; rfl) h0
            | cons x l => rfl
          clear h0 h2 HF HR
          go_enter Tryz.func65, Tryz.ntmps65
          go_wp2_with fail
          refine CP.out.mono ?_
          rintro e w1 ⟨rfl, hb⟩
          have HB := Lib.hid hb
          clear hb
          go_wp2_with fail
          refine (CN.out _).mono ?_
          rintro e w2 ⟨rfl, hb2⟩
          have HB2 := Lib.hid (below_step HB.out hb2)
          clear hb2
          go_wp2_with fail
          refine (CI.out _).mono ?_
          rintro e w3 ⟨rfl, rfl⟩
          obtain ⟨m0, m1, m2, fm⟩ := (HM.out.stays HB2.out).cell
          obtain ⟨_, a1, cap1, hv1, _, hc1⟩ := HRWS.out w2 HB2.out
          subst hv1
          obtain ⟨b1, o1, rfl, hbl, g1⟩ := hc1 (by omega)
          obtain ⟨c0, c1, c2⟩ := g1 k hkR
          rw [← HY.out] at c0 c1 c2
          dsimp only at c0 c1 c2
          clear g1 hc1
          go_wp2
          go_ret
          exact ⟨by rw [HR2.out]; rfl, HB2.out⟩
      · have HR2 : Hid (wrongW d n a s = 0) := Lib.hid (by rw [HR.out, if_neg (fun c => h2 (HF.out.1 c).2)])
        have hd2 : decide (200 ≤ (f.ops.length : Int)) = false := decide_eq_false (by omega)
        clear h2 HF HR
        go_enter Tryz.func65, Tryz.ntmps65
        go_wp2_with fail
        refine CP.out.mono ?_
        rintro e w1 ⟨rfl, hb⟩
        have HB := Lib.hid hb
        clear hb
        go_wp2_with fail
        refine (CN.out _).mono ?_
        rintro e w2 ⟨rfl, hb2⟩
        have HB2 := Lib.hid (below_step HB.out hb2)
        clear hb2
        go_wp2_with fail
        refine (CI.out _).mono ?_
        rintro e w3 ⟨rfl, rfl⟩
        obtain ⟨m0, m1, m2, fm⟩ := (HM.out.stays HB2.out).cell
        obtain ⟨_, a1, cap1, hv1, _, hc1⟩ := HRWS.out w2 HB2.out
        subst hv1
        obtain ⟨b1, o1, rfl, hbl, g1⟩ := hc1 (by omega)
        obtain ⟨c0, c1, c2⟩ := g1 k hkR
        rw [← HY.out] at c0 c1 c2
        dsimp only at c0 c1 c2
        clear g1 hc1
        go_wp2
        go_ret
        exact ⟨by rw [HR2.out]; rfl, HB2.out⟩
  · have hin2 := decide_eq_false hin
    have HR : Hid (wrongW d n a s = 4) := Lib.hid (by unfold wrongW; rw [if_neg (by rw [hn]; simp), if_pos hin])
    rw [hn] at CN
    rw [hin2] at CI
    clear hn hin hin2 h
    go_enter Tryz.func65, Tryz.ntmps65
    go_wp2_with fail
    refine CP.out.mono ?_
    rintro e w1 ⟨rfl, hb⟩
    have HB := Lib.hid hb
    clear hb
    go_wp2_with fail
    refine (CN.out _).mono ?_
    rintro e w2 ⟨rfl, hb2⟩
    have HB2 := Lib.hid (below_step HB.out hb2)
    clear hb2
    go_wp2_with fail
    refine (CI.out _).mono ?_
    rintro e w3 ⟨rfl, rfl⟩
    go_wp2
    go_ret
    exact ⟨by rw [HR.out]; rfl, HB2.out⟩
theorem withF_less {x : Dfl} : ∀ {L : List Dfl}, L.Pairwise (fun x y => x.t < y.t) → withF (lessF L x.t) x = withF L x
  | [], _ => rfl
  | y :: l, h => by
    obtain ⟨h1, h2⟩ := List.pairwise_cons.1 h
    have ih := withF_less (x := x) h2
    by_cases g1 : y.t < x.t
    · have hne : ¬ y.t = x.t := fun e => t_irrefl x.t (by rwa [e] at g1)
      have e : lessF (y :: l) x.t = y :: lessF l x.t := by unfold lessF; rw [List.filter_cons_of_pos (by simpa using hne)]
      rw [e]
      show (if _ then _ else _) = (if _ then _ else _)
      rw [if_pos g1, if_pos g1, ih]
    · by_cases g2 : y.t = x.t
      · have e : lessF (y :: l) x.t = l := by
          unfold lessF
          rw [List.filter_cons_of_neg (by simpa using g2), List.filter_eq_self.2]
          intro z hz
          simp only [decide_eq_true_eq]
          exact fun c => t_irrefl z.t (by have := h1 z hz; rwa [g2, ← c] at this)
        rw [e]
        show _ = (if _ then _ else if _ then _ else _)
        rw [if_neg g1, if_pos g2]
        cases l with
        | nil => rfl
        | cons z l =>
          have := h1 z (List.mem_cons_self ..)
          rw [g2] at this
          show (if _ then _ else if _ then _ else _) = _
          rw [if_neg (t_asymm this), if_neg (fun c => t_irrefl x.t (by rwa [c] at this))]
      · have g3 : x.t < y.t := Classical.byContradiction fun c => g2 (t_tri _ _ g1 c)
        have e : lessF (y :: l) x.t = y :: l := by
          unfold lessF
          refine List.filter_eq_self.2 fun z hz => ?_
          simp only [decide_eq_true_eq]
          rcases List.mem_cons.1 hz with rfl | hz
          · exact g2
          · exact fun c => t_irrefl x.t (by have := t_trans g3 (h1 z hz); rwa [c] at this)
        rw [e]
theorem wroteF_eq {d : Dsk} (hr : d.fs.Pairwise fun x y => x.t < y.t) (n : ByteArray) (a : Int) (s : ByteArray) {f0 : Dfl} (h : f0 = (getF d.fs n.data.toList).getD ⟨⟨#[]⟩, ⟨#[]⟩, []⟩) :
    wroteF d n a s = if s.size = 0 then ⟨n, f0.d, f0.ops⟩ else ⟨n, f0.d, f0.ops ++ [⟨a, s⟩]⟩ := by
  unfold wroteF
  cases hg : getF d.fs n.data.toList with
  | none => rw [hg] at h; subst h; rfl
  | some f =>
    rw [hg] at h
    have hn : f.n = n := str_txt.2 ((getF_some hr).1 hg).2
    have e : f0 = f := h
    subst e
    dsimp only
    rw [Option.getD_some, hn]
    split
    · exact dfl_ext hn rfl rfl
    · rfl
theorem step_append_dop {ops : Array Oper} {o : Oper} {a : Act} {B : Nat} {w0 : World} {K : Act → World → Prop} {Q : Exit → Act → World → Prop} {E : Prop} (hgd : o.guard = none) (s x : Operand)
    (ho : o.op = .call { callee := .builtin .append, args := #[s, x], argTypes := #[54, 54] })
    {v : Value} {M : List Dop} {y : Dop} (hown : OwnP15 B w0 v M) (hBs : B ≤ w0.heap.size) (hs : a.eval s = v)
    (hx : a.eval x = .slice (some ⟨w0.heap.size, 0, none⟩) 1 1) (hlen : M.length ≤ 1000000)
    (h : ∀ v' w', OwnP15 B w' v' (M ++ [y]) → w0.grownBy w' v.ownBlock → (v'.ownBlock = v.ownBlock ∨ ∃ g, v'.ownBlock = some g ∧ w0.heap.size ≤ g) → K (a.put o.dst v') w') :
    if Region.wanted o (yielded ops a.tmps) = true then Oper.wp Tryz.prog o a (w0.alloc (.cells #[.int .i64 y.at_, .string y.d] 59)) K Q else E := by
  have hw : Region.wanted o (yielded ops a.tmps) = true := by simp [Region.wanted, hgd]
  rw [if_pos hw]
  obtain ⟨i0, hi, hz0, hz1, hz2⟩ := info_parts infoOp
  obtain ⟨v', w', hr, ho', hg, _, hat⟩ := run_append_own_at (P := Tryz.prog) (w0.alloc (.cells #[.int .i64 y.at_, .string y.d] 59)) B 54 o.type 59 i0 (dopV zeroDop) 2 24 Tryz.underlying54 hi hz0 hz1 hz2 rfl (by decide) v M.length (dopCells M) (World.ownsRow.alloc hown _) ⟨w0.heap.size, 0, none⟩ 1 1 (dopC y) rfl dop_cell_Dla (fun u hu => by simp at hu; rcases hu with rfl | rfl <;> rfl) (by unfold maxLen; omega) (by omega) (by simp; omega)
  unfold Oper.wp execOp
  simp only [ho, resolve, invoke, builtin, Sem.run_bind, Sem.run_pure, Result.andThen_ok, List.map_toArray, List.map_cons, List.map_nil, hs, hx, hr]
  refine h v' w' ?_ (grown_after_Dla (World.grownBy_alloc w0 _ none) hg) (hat.imp id fun e => ⟨_, e, by simp⟩)
  unfold OwnP15
  rw [List.length_append, dopCells_app]
  have : dopCells [y] = dopC y := List.append_nil _
  rw [this]; exact ho'
theorem step_callx {P : Program} {ops : Array Oper} {o : Oper} {a : Act} {w : World} {K : Act → World → Prop} {Q : Exit → Act → World → Prop} {E : Prop} (hgd : o.guard = none) (f : FuncId) (args : Array Operand) (tys : Array TypeId) (ho : o.op = .call { callee := .value (.func f), args := args, argTypes := tys })
    (hen : ∀ xs w, (callFunc f xs).run P w = .ok (.enter f xs) w) (xs : Array Value) (hxs : args.map a.eval = xs) (v : Value) {R : World → Prop} (h : Calls P f xs w fun e w' => e = .returned v ∧ R w') (hk : ∀ w', R w' → K (a.put o.dst v) w') :
    if Region.wanted o (yielded ops a.tmps) = true then Oper.wp P o a w K Q else E := by
  have hw : Region.wanted o (yielded ops a.tmps) = true := by simp [Region.wanted, hgd]
  rw [if_pos hw]
  exact wp_callf f args tys ho hen xs hxs v h hk
set_option maxRecDepth 100000 in
set_option maxHeartbeats 4000000 in
theorem write_any (B kb : Nat) (v : Value) (R : List Dfr) (d : Dsk) (n : ByteArray) (a : Int) (s : ByteArray) (w : World) (h : Mch B kb w v R d) (hB : B ≤ w.heap.size) (hr : d.fs.Pairwise fun x y => x.t < y.t) (hl : d.fs.length ≤ 1000) (hns : n.size ≤ 1000000) (hss : s.size ≤ 1000000) (ho : ∀ f ∈ d.fs, f.ops.length ≤ 1000) :
    Calls Tryz.prog 67 #[.pointer (some ⟨kb, 0, none⟩), .string n, .int .i64 a, .string s] w (PutR B kb ⟨lessF d.fs n.data.toList, d.off, d.fuse⟩ (wroteF d n a s) w) := by
  have CT := Lib.hid (take_any B kb v R d n w h hB hr hl)
  have h0M := h
  obtain ⟨f0, hf0⟩ : ∃ f0, f0 = (getF d.fs n.data.toList).getD ⟨⟨#[]⟩, ⟨#[]⟩, []⟩ := ⟨_, rfl⟩
  have HW := Lib.hid (wroteF_eq hr n a s hf0)
  have hops : f0.ops.length ≤ 1000 := by
    cases hg : getF d.fs n.data.toList with
    | none => rw [hg] at hf0; subst hf0; exact Nat.zero_le _
    | some f => rw [hg] at hf0; have e : f0 = f := hf0; subst e; exact ho _ ((getF_some hr).1 hg).1
  have CN := Lib.hid (fun W => Clone_any_Pap n (by omega) W)
  have CS := Lib.hid (fun W => Clone_any_Pap s (by omega) W)
  have hlr := lessF_rise (t := n.data.toList) hr
  have hll := lessF_len d.fs n.data.toList
  have hng : getF (lessF d.fs n.data.toList) n.data.toList = none := by rw [lessF_get hr, if_pos rfl]
  obtain ⟨L, hL⟩ : ∃ L, L = lessF d.fs n.data.toList := ⟨_, rfl⟩
  rw [← hL] at hlr hll hng ⊢
  have CP := Lib.hid (fun W v' R' r (x : Dfl) (hM : Mch B kb W v' R' ⟨L, d.off, d.fuse⟩) (hx : RowP B W r x) (hBW : B ≤ W.heap.size) (hxt : x.t = n.data.toList) (hsp : ∀ y ∈ R', SepR r y) => put_any B kb v' R' ⟨L, d.off, d.fuse⟩ r x W hM hx hBW hlr (by show L.length ≤ 1000; omega) (by rw [hxt]; exact hng) hsp)
  have HF0 := Lib.hid hf0; have HL := Lib.hid hL
  clear h hr hlr hll hng ho hf0 hL
  go_enter Tryz.func67, Tryz.ntmps67
  go_wp2_with fail
  refine CT.out.mono ?_
  rintro e w1 ⟨r, v1, R1, rfl, hM, hP, hsep, hb1, _, _, hfr⟩
  have HT1 := Lib.hid (h0M.frame hfr)
  have HSEP := Lib.hid hsep
  rw [← HF0.out] at hP
  rw [← HL.out] at hM
  have hB1 : B ≤ w1.heap.size := Nat.le_trans hB hb1.size
  obtain ⟨V, hV⟩ : ∃ V, V = w1.alloc (.cells #[.string r.n, .string r.d, .slice r.a r.z r.c] 56) := ⟨_, rfl⟩
  have hbV : Below w1.heap.size w1 V := by rw [hV]; exact (Below.refl _ _).alloc (Nat.le_refl _) _
  have hRb : Row V w1.heap.size #[.string r.n, .string r.d, .slice r.a r.z r.c] 56 := by rw [hV]; exact Row.made _ _ _
  have HV := Lib.hid hV
  have HMV := Lib.hid (hM.stays hbV); have HPV := Lib.hid (hP.stays hbV); have HBV := Lib.hid (hb1.trans (hbV.mono hB1)); have HRB := Lib.hid hRb
  have HNE : Hid (v1.ownBlock ≠ some w1.heap.size) := Lib.hid fun e => by have := (World.ownsRow.lt hM.own _ e).2; omega
  have HTV := Lib.hid (HT1.out.trans (KeepT.below hbV))
  clear hM hP hb1 hV hbV hRb hsep hfr h0M
  go_wp2_with fail
  rw [← HV.out]
  refine (CN.out _).mono ?_
  rintro e w2 ⟨rfl, hb2⟩
  -- the box with its name
  have hR2 := HRB.out.step hb2
  have hM2 := HMV.out.stays hb2
  have hP2 := HPV.out.stays hb2
  have hB2 := HBV.out.trans (hb2.mono (by have := HBV.out.size; omega))
  have HR3 := Lib.hid (hR2.set 0 (.string n))
  have HM3 := Lib.hid (hM2.box hR2 HNE.out 0 (.string n))
  have HP3 := Lib.hid (hP2.box hR2 0 (.string n))
  have HB3 := Lib.hid (hB2.setCell (p := ⟨w1.heap.size, 0, none⟩) hB1 (.string n))
  have HT3 := Lib.hid ((HTV.out.trans (KeepT.below hb2)).trans (KeepT.set hR2 (.inr (.inl rfl)) 0 (.string n)))
  obtain ⟨r0, r1, r2, fr⟩ := row_cells hR2
  have hlt := hR2.lt
  clear hb2 hR2 hM2 hP2 hB2
  have hBs : B ≤ w2.heap.size := by omega
  by_cases h0 : s.size = 0
  · have e1 : s.toList.isEmpty = true := by rw [Lib.toList_data, List.isEmpty_iff]; exact List.eq_nil_of_length_eq_zero (by rw [dsize]; exact h0)
    have HWE : Hid (wroteF d n a s = ⟨n, f0.d, f0.ops⟩) := Lib.hid (by rw [HW.out, if_pos h0])
    have CP2 := Lib.hid (CP.out _ v1 R1 ⟨n, r.d, r.a, r.z, r.c⟩ ⟨n, f0.d, f0.ops⟩ HM3.out ⟨rfl, HP3.out.2.1, HP3.out.2.2⟩ (by simpa [World.setCell] using hBs) rfl (fun y hy => HSEP.out y hy))
    clear h0 HW CP
    go_wp2_with fail
    refine CP2.out.mono ?_
    rintro e w4 ⟨v4, R4, rfl, hM4, hB4, hT4⟩
    go_wp2
    go_end0
    exact ⟨v4, R4, rfl, by rw [HWE.out]; exact hM4, HB3.out.trans hB4, HT3.out.trans hT4⟩
  · have e1 : s.toList.isEmpty = false := by
      rw [Lib.toList_data]
      cases he : s.data.toList with
      | nil => exact absurd (by rw [← dsize, he]; rfl) h0
      | cons x l => rfl
    have HWE : Hid (wroteF d n a s = ⟨n, f0.d, f0.ops ++ [⟨a, s⟩]⟩) := Lib.hid (by rw [HW.out, if_neg h0])
    clear h0 HW
    go_wp2_with fail
    obtain ⟨W, hW⟩ : ∃ W, W = w2.setCell ⟨w1.heap.size, 0, none⟩ (.string n) := ⟨_, rfl⟩
    rw [← hW] at HR3 HM3 HP3 HB3 HT3 ⊢
    have hWs : W.heap.size = w2.heap.size := by rw [hW]; simp [World.setCell]
    clear hW r0 r1 r2 fr
    obtain ⟨r0, r1, r2, fr⟩ : W.cell? ⟨w1.heap.size, 0, none⟩ = some (.string n) ∧ W.cell? ⟨w1.heap.size, 1, none⟩ = some (.string r.d) ∧ W.cell? ⟨w1.heap.size, 2, none⟩ = some (.slice r.a r.z r.c) ∧ ∀ i, W.frozen? ⟨w1.heap.size, i, none⟩ = false := row_cells HR3.out
    have CS2 : Hid (∀ W2, Below W.heap.size W W2 → Calls Tryz.prog 91 #[.string s] W2 fun e w' => e = .returned (.string s) ∧ Below W.heap.size W w' ∧ Row w' w1.heap.size #[.string n, .string r.d, .slice r.a r.z r.c] 56) := Lib.hid fun W2 hW2 => by
      refine (CS.out W2).mono ?_
      rintro e w' ⟨rfl, hb⟩
      exact ⟨rfl, below_step hW2 hb, HR3.out.step (below_step hW2 hb)⟩
    have hlW : w1.heap.size < W.heap.size := HR3.out.lt
    have HFIN : Hid (∀ w4 w5 a5 n5 c5, Below W.heap.size W w4 → Row w4 w1.heap.size #[.string n, .string r.d, .slice r.a r.z r.c] 56 → OwnP15 B w5 (.slice a5 n5 c5) (f0.ops ++ [⟨a, s⟩]) → w4.grownBy w5 (Value.slice r.a r.z r.c).ownBlock → ((Value.slice a5 n5 c5).ownBlock = (Value.slice r.a r.z r.c).ownBlock ∨ ∃ g, (Value.slice a5 n5 c5).ownBlock = some g ∧ w4.heap.size ≤ g) →
        Row w5 w1.heap.size #[.string n, .string r.d, .slice r.a r.z r.c] 56 ∧
        (∃ v4 R4, Calls Tryz.prog 70 #[.pointer (some ⟨kb, 0, none⟩), dfrV ⟨n, r.d, a5, n5, c5⟩] (w5.setCell ⟨w1.heap.size, 2, none⟩ (.slice a5 n5 c5)) (PutR B kb ⟨L, d.off, d.fuse⟩ ⟨n, f0.d, f0.ops ++ [⟨a, s⟩]⟩ (w5.setCell ⟨w1.heap.size, 2, none⟩ (.slice a5 n5 c5))) ∧ v4 = v1 ∧ R4 = R1) ∧ Below B w (w5.setCell ⟨w1.heap.size, 2, none⟩ (.slice a5 n5 c5)) ∧ KeepT w (w5.setCell ⟨w1.heap.size, 2, none⟩ (.slice a5 n5 c5))) := Lib.hid fun w4 w5 a5 n5 c5 h1 h2 h3 h4 h5 => by
      have hM4 := HM3.out.stays h1
      have hP4 := HP3.out.stays h1
      have hne : (Value.slice r.a r.z r.c).ownBlock ≠ some w1.heap.size := hP4.2.2.apart h2 (by decide)
      have hR5 : Row w5 w1.heap.size #[.string n, .string r.d, .slice r.a r.z r.c] 56 := by
        unfold Row; rw [h4.block _ h2.lt (fun e => hne e.symm)]; exact h2
      have hnk : (Value.slice r.a r.z r.c).ownBlock ≠ some kb := hP4.2.2.apart hM4.row (by decide)
      have hk5 : Row w5 kb #[v1, .bool d.off, .int .i64 d.fuse] 105 := by
        unfold Row; rw [h4.block _ hM4.row.lt (fun e => hnk e.symm)]; exact hM4.row
      have hv5 : OwnD B w5 v1 R1 := World.ownsRow.kept hM4.own h4 (by
        cases hv : v1.ownBlock with
        | none => exact .inl rfl
        | some g =>
          refine .inr fun e => ?_
          obtain ⟨xs, hx⟩ := hM4.own.row hv
          exact hP4.2.2.apart hx (by decide) e.symm)
      have hrw5 : ∀ y x, y ∈ R1 → RowP B w4 y x → RowP B w5 y x := fun y x hy hr => ⟨hr.1, hr.2.1, hr.2.2.grown h4 (by
        cases hv : (Value.slice y.a y.z y.c).ownBlock with
        | none => exact .inl rfl
        | some g => exact .inr fun e => HSEP.out y hy g e.symm hv)⟩
      have hrows5 : RowsS (RowP B w5) R1 L := rows_of_get hM4.rows.len fun i i1 i2 => hrw5 _ _ (List.getElem_mem i1) (hM4.rows.get i i1 i2)
      have hM5 : Mch B kb w5 v1 R1 ⟨L, d.off, d.fuse⟩ := ⟨hk5, hv5, hrows5, hM4.from_, hM4.sep⟩
      have hB4 := HB3.out.trans (h1.mono (by omega))
      have hB5 : Below B w w5 := hB4.grown h4 (Nat.le_trans hBs (by rw [← hWs]; exact h1.size)) (fun g e => (World.ownsRow.lt hP4.2.2 g e).1)
      refine ⟨hR5, ⟨v1, R1, CP.out _ v1 R1 ⟨n, r.d, a5, n5, c5⟩ ⟨n, f0.d, f0.ops ++ [⟨a, s⟩]⟩ (hM5.box hR5 HNE.out 2 _) (RowP.box (show RowP B w5 ⟨n, r.d, a5, n5, c5⟩ ⟨n, f0.d, f0.ops ++ [⟨a, s⟩]⟩ from ⟨rfl, hP4.2.1, h3⟩) hR5 2 _) (by have := hB5.size; simp [World.setCell]; omega) rfl ?_, rfl, rfl⟩, hB5.setCell (p := ⟨w1.heap.size, 2, none⟩) hB1 _, ((HT3.out.trans (KeepT.below h1)).trans (KeepT.grown h4 fun g e => by obtain ⟨xs, hx⟩ := hP4.2.2.row e; exact ⟨xs, _, hx, .inr (.inr rfl)⟩)).trans (KeepT.set hR5 (.inr (.inl rfl)) 2 _)⟩
      intro y hy g e1 e2
      rcases h5 with h5 | ⟨g', h5, h6⟩
      · exact HSEP.out y hy g (by unfold obk; rw [← h5]; exact e1) e2
      · have e3 : g = g' := by
          have : obk ⟨n, r.d, a5, n5, c5⟩ = some g' := h5
          rw [e1] at this; exact Option.some.inj this
        obtain ⟨i, hi, rfl⟩ := List.getElem_of_mem hy
        have := (World.ownsRow.lt (hM4.rows.get i hi (by rw [← hM4.rows.len]; exact hi)).2.2 g e2).2
        omega
    go_region_law (first
      | (refine step_callx rfl 91 _ _ rfl (enters_of Tryz.func91 (by kernel_rfl) rfl) #[.string s] (by simp [go_sem]) (.string s) (CS2.out _ (Below.refl _ W).drew) ?_; rintro w4 ⟨hq1, hq2⟩; have HQ1 := Lib.hid hq1; have HQ2 := Lib.hid hq2; have hs4 : w1.heap.size < w4.heap.size := Nat.lt_of_lt_of_le hlW hq1.size; obtain ⟨q0, q1, q2, fq⟩ := row_cells hq2; clear hq1 hq2)
      | (refine step_append_dop (B := B) (M := f0.ops) (y := ⟨a, s⟩) rfl _ _ rfl (HP3.out.2.2.stays HQ1.out) (Nat.le_trans hB1 (Nat.le_of_lt hs4)) rfl rfl (by omega) ?_; intro v5 w5 ho5 hg5 hat5; obtain ⟨a5, c5, hv5⟩ := ho5.is.len; rw [List.length_append, List.length_singleton] at hv5; subst hv5; obtain ⟨hu1, hu2, hu3, hu4⟩ := HFIN.out w4 w5 a5 _ c5 HQ1.out HQ2.out ho5 hg5 hat5; have HU2 := Lib.hid hu2; have HU3 := Lib.hid hu3; have HU4 := Lib.hid hu4; obtain ⟨q0, q1, q2, fq⟩ := row_cells hu1; have hl5 := hg5.size; clear hu1 hu2 hu3 hu4 ho5 hg5 hat5))
    all_goals
      obtain ⟨_, _, hp, _, _⟩ := HU2.out
      have HPP := Lib.hid hp
      clear hp
      go_wp2_with fail
      refine HPP.out.mono ?_
      rintro e w6 ⟨v4, R4, rfl, hM4, hB4, hT4⟩
      go_wp2
      go_end0
      exact ⟨v4, R4, rfl, by rw [HWE.out]; exact hM4, HU3.out.trans hB4, HU4.out.trans hT4⟩
set_option maxRecDepth 100000 in
set_option maxHeartbeats 4000000 in
theorem rename_any (B kb : Nat) (v : Value) (R : List Dfr) (d : Dsk) (n m : ByteArray) (f : Dfl) (w : World) (h : Mch B kb w v R d) (hB : B ≤ w.heap.size) (hr : d.fs.Pairwise fun x y => x.t < y.t) (hl : d.fs.length ≤ 1000) (hms : m.size ≤ 1000000) (hg : getF d.fs n.data.toList = some f) :
    Calls Tryz.prog 78 #[.pointer (some ⟨kb, 0, none⟩), .string n, .string m] w (PutR B kb ⟨lessF d.fs n.data.toList, d.off, d.fuse⟩ ⟨m, f.d, f.ops⟩ w) := by
  have CT := Lib.hid (take_any B kb v R d n w h hB hr hl)
  have CN := Lib.hid (fun W => Clone_any_Pap m (by omega) W)
  have hlr := lessF_rise (t := n.data.toList) hr
  have hll := lessF_len d.fs n.data.toList
  obtain ⟨L, hL⟩ : ∃ L, L = lessF d.fs n.data.toList := ⟨_, rfl⟩
  have hng : getF (lessF L m.data.toList) m.data.toList = none := by rw [lessF_get (by rw [hL]; exact hlr), if_pos rfl]
  rw [← hL] at hlr hll ⊢
  have hwl : withF (lessF L m.data.toList) ⟨m, f.d, f.ops⟩ = withF L ⟨m, f.d, f.ops⟩ := withF_less (x := ⟨m, f.d, f.ops⟩) hlr
  have CT2 := Lib.hid (fun W v' R' (hM : Mch B kb W v' R' ⟨L, d.off, d.fuse⟩) (hBW : B ≤ W.heap.size) => take_any B kb v' R' ⟨L, d.off, d.fuse⟩ m W hM hBW hlr (by show L.length ≤ 1000; omega))
  have CP := Lib.hid (fun W v' R' r (hM : Mch B kb W v' R' ⟨lessF L m.data.toList, d.off, d.fuse⟩) (hx : RowP B W r ⟨m, f.d, f.ops⟩) (hBW : B ≤ W.heap.size) (hsp : ∀ y ∈ R', SepR r y) => put_any B kb v' R' ⟨lessF L m.data.toList, d.off, d.fuse⟩ r ⟨m, f.d, f.ops⟩ W hM hx hBW (lessF_rise hlr) (by have := lessF_len L m.data.toList; show (lessF L m.data.toList).length ≤ 1000; omega) hng hsp)
  have HL := Lib.hid hL; have HG := Lib.hid hg; have HM0 := Lib.hid h; have HWL := Lib.hid hwl
  clear h hr hlr hll hng hL hg hwl
  go_enter Tryz.func78, Tryz.ntmps78
  go_wp2_with fail
  refine CT.out.mono ?_
  rintro e w1 ⟨r, v1, R1, rfl, hM, hP, hsep, hb1, hsub1, hvb1, hfr1⟩
  rw [HG.out, Option.getD_some] at hP
  rw [← HL.out] at hM
  have HSEP := Lib.hid hsep
  have HT1 := Lib.hid (HM0.out.frame hfr1)
  have hB1 : B ≤ w1.heap.size := Nat.le_trans hB hb1.size
  obtain ⟨V, hV⟩ : ∃ V, V = w1.alloc (.cells #[.string r.n, .string r.d, .slice r.a r.z r.c] 56) := ⟨_, rfl⟩
  have hbV : Below w1.heap.size w1 V := by rw [hV]; exact (Below.refl _ _).alloc (Nat.le_refl _) _
  have hRb : Row V w1.heap.size #[.string r.n, .string r.d, .slice r.a r.z r.c] 56 := by rw [hV]; exact Row.made _ _ _
  have HV := Lib.hid hV
  have HMV := Lib.hid (hM.stays hbV); have HPV := Lib.hid (hP.stays hbV); have HBV := Lib.hid (hb1.trans (hbV.mono hB1)); have HRB := Lib.hid hRb
  have HNE : Hid (v1.ownBlock ≠ some w1.heap.size) := Lib.hid fun e => by have := (World.ownsRow.lt hM.own _ e).2; omega
  have HTV := Lib.hid (HT1.out.trans (KeepT.below hbV))
  have hBV : B ≤ V.heap.size := Nat.le_trans hB1 hbV.size
  clear hM hP hb1 hV hbV hRb hsep hsub1 hvb1 hfr1
  go_wp2_with fail
  rw [← HV.out]
  refine (CT2.out V v1 R1 HMV.out hBV).mono ?_
  rintro e w2 ⟨r2, v2, R2, rfl, hM2, _, _, hb2, hsub2, hvb2, hfr2⟩
  have hkb : w1.heap.size ≠ kb := fun e => by
    have h1 := HRB.out; have h2 := HMV.out.row
    rw [e] at h1
    unfold Row at h1 h2
    rw [h1] at h2; cases h2
  have HR2 : Hid (Row w2 w1.heap.size #[.string r.n, .string r.d, .slice r.a r.z r.c] 56) := Lib.hid (by
    unfold Row; rw [hfr2 _ HRB.out.lt hkb HNE.out]; exact HRB.out)
  have HP2 : Hid (RowP B w2 r f) := Lib.hid ⟨HPV.out.1, HPV.out.2.1, (by
    have ho := HPV.out.2.2
    rcases ho.2 with ⟨e0, e1⟩ | ⟨g, cap, cur, e0, e1, e2, e3⟩
    · exact ⟨ho.1, .inl ⟨e0, e1⟩⟩
    · refine ⟨ho.1, .inr ⟨g, cap, cur, e0, e1, ?_, e3⟩⟩
      have hgk : (Value.slice r.a r.z r.c).ownBlock = some g := by rw [e0]; rfl
      rw [hfr2 g (World.ownsRow.lt ho g hgk).2 (fun e => ho.apart HMV.out.row (by decide) (by rw [hgk, e])) (fun e => by
        obtain ⟨xs, hx⟩ := HMV.out.own.row e
        exact ho.apart hx (by decide) hgk)]
      exact e2)⟩
  have HM2 := Lib.hid hM2
  have HB2 := Lib.hid (HBV.out.trans hb2)
  have HT2 := Lib.hid (HTV.out.trans (HMV.out.frame hfr2))
  have HSE2 : Hid (∀ y ∈ R2, SepR r y) := Lib.hid fun y hy => HSEP.out y (hsub2 y hy)
  have HNE2 : Hid (v2.ownBlock ≠ some w1.heap.size) := Lib.hid (by rw [hvb2]; exact HNE.out)
  have hB2 : B ≤ w2.heap.size := Nat.le_trans hBV hb2.size
  clear hM2 hb2 hsub2 hvb2 hfr2 hkb
  go_wp2_with fail
  refine (CN.out _).mono ?_
  rintro e w3 ⟨rfl, hb3⟩
  have hR3 := HR2.out.step hb3
  have HM4 := Lib.hid ((HM2.out.stays hb3).box hR3 HNE2.out 0 (.string m))
  have HP4 := Lib.hid ((HP2.out.stays hb3).box hR3 0 (.string m))
  have HB4 := Lib.hid ((HB2.out.trans (hb3.mono hB2)).setCell (p := ⟨w1.heap.size, 0, none⟩) hB1 (.string m))
  have HT4 := Lib.hid ((HT2.out.trans (KeepT.below hb3)).trans (KeepT.set hR3 (.inr (.inl rfl)) 0 (.string m)))
  have hR4 := hR3.set 0 (.string m)
  obtain ⟨r0, r1, r2', fr⟩ := row_cells hR3
  have CP2 := Lib.hid (CP.out _ v2 R2 ⟨m, r.d, r.a, r.z, r.c⟩ HM4.out ⟨rfl, HP4.out.2.1, HP4.out.2.2⟩ (by have := hb3.size; simp [World.setCell]; omega) (fun y hy => HSE2.out y hy))
  clear hb3 hR3 hR4
  go_wp2_with fail
  refine CP2.out.mono ?_
  rintro e w5 ⟨v5, R5, rfl, hM5, hB5, hT5⟩
  go_wp2
  go_end0
  exact ⟨v5, R5, rfl, by rw [← HWL.out]; exact hM5, HB4.out.trans hB5, HT4.out.trans hT5⟩
def actD (d : Dsk) (wrong : Int) (fs : List Dfl) : Dsk × Int := if d.off = true then (d, 13) else if wrong ≠ 0 then (d, wrong) else thenD d fs
def ActR (B kb : Nat) (r : Dsk × Int) (w : World) (e : Ending) (w' : World) : Prop := ∃ v' R', e = .returned (.int .i64 r.2) ∧ Mch B kb w' v' R' r.1 ∧ Below B w w' ∧ KeepT w w'
def DoR (B kb : Nat) (fs : List Dfl) (off : Bool) (fuse : Int) (w : World) (e : Ending) (w' : World) : Prop := ∃ v' R', e = .returned (.tuple #[]) ∧ Mch B kb w' v' R' ⟨fs, off, fuse⟩ ∧ Below B w w' ∧ KeepT w w'
theorem Mch.setFuse {B kb : Nat} {w : World} {v : Value} {R : List Dfr} {d : Dsk} (h : Mch B kb w v R d) (f : Int) : Mch B kb (w.setCell ⟨kb, 2, none⟩ (.int .i64 f)) v R ⟨d.fs, d.off, f⟩ :=
  h.turnRow (xs := #[]) 2 _ (by have := h.row.set 2 (.int .i64 f); exact this)
set_option maxRecDepth 100000 in
set_option maxHeartbeats 4000000 in
theorem act_any (B kb : Nat) (v : Value) (R : List Dfr) (d : Dsk) (wrong : Int) (fk : FuncId) (cap : Array Value) (fs : List Dfl) (hE : Enters Tryz.prog fk) (w : World) (h : Mch B kb w v R d) (hB : B ≤ w.heap.size) (h1 : -1 ≤ d.fuse) (h2 : d.fuse ≤ 1048576)
    (hd : wrong = 0 → d.off = false → ∀ W f, KeepT w W → B ≤ W.heap.size → Mch B kb W v R ⟨d.fs, false, f⟩ → Calls Tryz.prog fk cap W (DoR B kb fs false f W)) :
    Calls Tryz.prog 64 #[.pointer (some ⟨kb, 0, none⟩), .int .i64 wrong, .func (.func fk) #[] cap] w (ActR B kb (actD d wrong fs) w) := by
  have HM := Lib.hid h
  obtain ⟨m0, m1, m2, fm⟩ := h.cell
  unfold Enters at hE
  obtain ⟨fl, off, fuse⟩ := d
  dsimp only at h1 h2 hd m1 m2 HM ⊢
  cases off with
  | true =>
    have HR : Hid (actD ⟨fl, true, fuse⟩ wrong fs = (⟨fl, true, fuse⟩, 13)) := Lib.hid (if_pos rfl)
    clear hd h
    go_enter Tryz.func64, Tryz.ntmps64
    go_wp2
    go_ret
    exact ⟨v, R, by rw [HR.out]; rfl, by rw [HR.out]; exact HM.out, Below.refl _ _, fun _ _ _ _ _ _ h => h⟩
  | false =>
    by_cases hw : wrong = 0
    · have HD := Lib.hid (hd hw rfl)
      have HR : Hid (actD ⟨fl, false, fuse⟩ wrong fs = thenD ⟨fl, false, fuse⟩ fs) := Lib.hid (by unfold actD; rw [if_neg (by simp), if_neg (by simpa using hw)])
      subst hw
      clear hd
      by_cases h0 : fuse = 0
      · have HP : Hid (thenD ⟨fl, false, fuse⟩ fs = (⟨fl, true, -1⟩, 13)) := Lib.hid (by
          have hp : powD ⟨fl, false, fuse⟩ = (⟨fl, true, -1⟩, 13) := if_pos h0
          rw [thenD_bad (by rw [hp]; show (13 : Int) ≠ 0; decide), hp])
        subst h0
        have hrow : Row ((w.setCell ⟨kb, 1, none⟩ (.bool true)).setCell ⟨kb, 2, none⟩ (.int .i64 (-1))) kb #[v, .bool true, .int .i64 (-1)] 105 := by
          have := (h.row.set 1 (.bool true)).set 2 (.int .i64 (-1)); exact this
        have hM1 : Mch B kb (w.setCell ⟨kb, 1, none⟩ (.bool true)) v R ⟨fl, true, 0⟩ := h.turnRow (xs := #[]) 1 _ (by have := h.row.set 1 (.bool true); exact this)
        have HM2 := Lib.hid (hM1.setFuse (-1))
        have HT2 := Lib.hid ((KeepT.set h.row (.inl rfl) 1 (.bool true)).trans (KeepT.set hM1.row (.inl rfl) 2 (.int .i64 (-1))))
        have HB2 := Lib.hid (((Below.refl B w).setCell (p := ⟨kb, 1, none⟩) h.from_ (.bool true)).setCell (p := ⟨kb, 2, none⟩) h.from_ (.int .i64 (-1)))
        clear hrow hM1 h
        go_enter Tryz.func64, Tryz.ntmps64
        go_wp2
        go_ret
        exact ⟨v, R, by rw [HR.out, HP.out]; rfl, by rw [HR.out, HP.out]; exact HM2.out, HB2.out, HT2.out⟩
      · have e0 : (fuse == 0) = false := by simpa using h0
        by_cases h3 : 0 < fuse
        · have e3 : decide (0 < fuse) = true := decide_eq_true h3
          have HP : Hid (thenD ⟨fl, false, fuse⟩ fs = (⟨fs, false, fuse - 1⟩, 0)) := Lib.hid (by
            have hp : powD ⟨fl, false, fuse⟩ = (⟨fl, false, fuse - 1⟩, 0) := by unfold powD; rw [if_neg h0, if_pos h3]
            rw [thenD_ok (by rw [hp]), hp])
          have hsub : IntKind.i64.wrap (fuse - 1) = fuse - 1 := IntWalk.i64_in _ (by omega)
          have HT2 := Lib.hid (KeepT.set h.row (.inl rfl) 2 (.int .i64 (fuse - 1)))
          have HB2 := Lib.hid ((Below.refl B w).setCell (p := ⟨kb, 2, none⟩) h.from_ (.int .i64 (fuse - 1)))
          have C := Lib.hid (HD.out _ (fuse - 1) HT2.out (by simp [World.setCell]; exact hB) (h.setFuse (fuse - 1)))
          clear h h0 h3
          go_enter Tryz.func64, Tryz.ntmps64
          go_wp2_with fail
          refine C.out.mono ?_
          rintro e w2 ⟨v2, R2, rfl, hM2, hB2, hT2⟩
          go_wp2
          go_ret
          exact ⟨v2, R2, by rw [HR.out, HP.out]; rfl, by rw [HR.out, HP.out]; exact hM2, HB2.out.trans hB2, HT2.out.trans hT2⟩
        · have e3 : decide (0 < fuse) = false := decide_eq_false h3
          have HP : Hid (thenD ⟨fl, false, fuse⟩ fs = (⟨fs, false, fuse⟩, 0)) := Lib.hid (by
            have hp : powD ⟨fl, false, fuse⟩ = (⟨fl, false, fuse⟩, 0) := by unfold powD; rw [if_neg h0, if_neg h3]
            rw [thenD_ok (by rw [hp]), hp])
          have C := Lib.hid (HD.out w fuse (fun _ _ _ _ _ _ h => h) hB h)
          clear h h0 h3
          go_enter Tryz.func64, Tryz.ntmps64
          go_wp2_with fail
          refine C.out.mono ?_
          rintro e w2 ⟨v2, R2, rfl, hM2, hB2, hT2⟩
          go_wp2
          go_ret
          exact ⟨v2, R2, by rw [HR.out, HP.out]; rfl, by rw [HR.out, HP.out]; exact hM2, hB2, hT2⟩
    · have HR : Hid (actD ⟨fl, false, fuse⟩ wrong fs = (⟨fl, false, fuse⟩, wrong)) := Lib.hid (by unfold actD; rw [if_neg (by simp), if_pos hw])
      have e0 : (wrong == 0) = false := by simpa using hw
      clear hd h
      go_enter Tryz.func64, Tryz.ntmps64
      go_wp2
      go_ret
      exact ⟨v, R, by rw [HR.out]; rfl, by rw [HR.out]; exact HM.out, Below.refl _ _, fun _ _ _ _ _ _ h => h⟩
set_option maxRecDepth 100000 in
set_option maxHeartbeats 4000000 in
theorem pRead_any (d : Dsk) (v : Value) (s : ByteArray) (w : World) (h : IsDfs w v d.fs) (hr : d.fs.Pairwise fun x y => x.t < y.t) (hl : d.fs.length ≤ 1000) (hf : ∀ f ∈ d.fs, f.d.size ≤ 262144 ∧ ∀ o ∈ f.ops, opOk o) :
    Calls Tryz.prog 50 #[dskV v d, .string s] w fun e w' => e = .returned (.tuple #[.string (strT (readD d s.data.toList).1), .bool (readD d s.data.toList).2]) ∧ Below w.heap.size w w' := by
  obtain ⟨_, a, cap, hu, _, _⟩ := id h
  obtain ⟨z, hz⟩ : ∃ z, z = d.fs.length := ⟨_, rfl⟩
  rw [← hz] at hu hl
  have HZ := Lib.hid hz
  subst hu
  obtain ⟨V, hV⟩ : ∃ V, V = (w.alloc (.cells #[.slice a z cap, .bool d.off, .int .i64 d.fuse] 28)).alloc (.cells #[.slice a z cap, .bool d.off, .int .i64 d.fuse] 105) := ⟨_, rfl⟩
  have hbV : Below w.heap.size w V := by rw [hV]; exact ((Below.refl _ _).alloc (Nat.le_refl _) _).alloc (by simp) _
  have hR : Row V w.heap.size #[.slice a z cap, .bool d.off, .int .i64 d.fuse] 28 := by rw [hV]; exact (Row.made _ _ _).alloc _
  have hR2 : Row V (w.heap.size + 1) #[.slice a z cap, .bool d.off, .int .i64 d.fuse] 105 := by
    rw [hV]; have := Row.made (w.alloc (.cells #[.slice a z cap, .bool d.off, .int .i64 d.fuse] 28)) #[.slice a z cap, .bool d.off, .int .i64 d.fuse] 105; simpa using this
  have HV := Lib.hid hV; have HBV := Lib.hid hbV
  have hI := h.stays hbV
  obtain ⟨R, hRw, hS⟩ := hI.rws
  have CP := Lib.hid (place_any_Dlh (B := 0) (kb := w.heap.size + 1) s V hRw (by have p := hR2.cell 0; simpa using p) (hS.names fun r x h => h.1) hr (by rw [hS.len]; omega))
  have HAT := Lib.hid (getF_cnt hr s.data.toList)
  have HI := Lib.hid hI; have HF := Lib.hid hf
  obtain ⟨k, hk⟩ : ∃ k, k = cntF d.fs s.data.toList := ⟨_, rfl⟩
  have HK := Lib.hid hk
  have HRB := Lib.hid hR
  rw [← hk] at CP
  have p0 := hR.cell 0; have p1 := hR.cell 1; have p2 := hR.cell 2
  simp only [List.getElem?_toArray, List.getElem?_cons_zero, List.getElem?_cons_succ] at p0 p1 p2
  have hzz : z ≤ 9223372036854775807 := by omega
  clear hV hbV hR hR2 hI hk hRw hS h hz hf
  unfold dskV
  cases hg : getF d.fs s.data.toList with
  | none =>
    have HRD := Lib.hid (readD_none hg)
    rw [hg] at CP
    clear hg
    go_enter Tryz.func50, Tryz.ntmps50
    go_wp2_with fail
    rw [← HV.out]
    refine CP.out.mono ?_
    rintro e w2 ⟨rfl, hb2⟩
    go_wp2
    exact bodyPost_ret (v := .tuple #[.string ⟨#[]⟩, .bool false]) (by simp [results, Tryz.results50, go_sem]) rfl ⟨by rw [HRD.out]; rfl, below_step HBV.out hb2⟩
  | some f =>
    have HRD := Lib.hid (readD_some hg)
    obtain ⟨hkl, hkf⟩ : ∃ h : k < d.fs.length, d.fs[k] = f := by
      rcases HAT.out with ⟨h1, h2, h3⟩ | ⟨h1, _⟩
      · rw [← HK.out] at h1
        refine ⟨h1, ?_⟩
        simp only [HK.out]
        rw [hg] at h3
        exact (Option.some.inj h3).symm
      · rw [hg] at h1; cases h1
    rw [hg] at CP
    have hkz : k < z := by have := HZ.out; omega
    clear hg HAT
    go_enter Tryz.func50, Tryz.ntmps50
    go_wp2_with fail
    rw [← HV.out]
    refine CP.out.mono ?_
    rintro e w2 ⟨rfl, hb2⟩
    have HB2 := Lib.hid (below_step HBV.out hb2)
    obtain ⟨_, _, _, hev, _, hc⟩ := HI.out.stays hb2
    rw [← HZ.out] at hev
    cases hev
    obtain ⟨b1, o1, rfl, hbl, g1⟩ := hc (by omega)
    obtain ⟨u, c0, c1, c2, hu⟩ := g1 k hkl
    rw [hkf] at c0 c1 hu
    have hff := HF.out f (by rw [← hkf]; exact List.getElem_mem hkl)
    have CS := Lib.hid (seen_any f u w2 hu hff.1 hff.2)
    have hR3 := HRB.out.step hb2
    clear p0 p1 p2
    have p0 := hR3.cell 0
    simp only [List.getElem?_toArray, List.getElem?_cons_zero] at p0
    have hbk : decide ((k : Int) < (z : Int)) = true := decide_eq_true (by omega)
    clear g1 hc hu hff hR3 hb2 hkf
    go_wp2_with fail
    refine CS.out.mono ?_
    rintro e w3 ⟨rfl, hb3⟩
    go_wp2
    exact bodyPost_ret (v := .tuple #[.string (strT (seenF f)), .bool true]) (by simp [results, Tryz.results50, go_sem]) rfl ⟨by rw [HRD.out], below_step HB2.out hb3⟩
end Go.Proofs.YtalknbadakfppaaGreat
set_option linter.unusedVariables false
namespace Go.Proofs.YtalknbadakfppaaGreat
open Go.RowKit Go.Shelf
attribute [local go_sem] Oper.semAt_some
set_option maxRecDepth 100000 in
set_option maxHeartbeats 8000000 in
theorem wrapped_any (v : Value) (L : List ByteArray) (w : World) (h : IsStrs w v L) (hm : ∀ x ∈ L, x.size ≤ maxLen) :
    Calls Tryz.prog 19 #[v] w fun e w' => e = .returned (.tuple #[.string (strT (framesT (txts L)).1), .bool (framesT (txts L)).2]) ∧ Below w.heap.size w w' := by
  have HI := Lib.hid h; have HM := Lib.hid hm
  obtain ⟨hml, a, cap, hu, _, _⟩ := id h
  obtain ⟨z, hz⟩ : ∃ z, z = L.length := ⟨_, rfl⟩
  rw [← hz] at hu
  subst hu
  have HZ := Lib.hid hz
  have hmz : z ≤ 9223372036854775807 := by unfold maxLen at hml; omega
  have hI0 : Lib.IsBuilderF 76 5 w.heap.size w.heap.size [] (w.alloc (.cells #[.pointer none, .slice none 0 0] 76)) := Lib.IsBuilderF.of (Lib.fresh_isBuilder 76 5 w)
  have hB0 : Below w.heap.size w (w.alloc (.cells #[.pointer none, .slice none 0 0] 76)) := (Below.refl _ w).alloc (Nat.le_refl _) _
  have hN0 := heap_alloc_new w (.cells #[.pointer none, .slice none 0 0] 76)
  have HI0 := Lib.hid hI0; have HB0 := Lib.hid hB0; have HN0 := Lib.hid hN0
  clear h hm hml hz hI0 hB0 hN0
  go_enter Tryz.func19, Tryz.ntmps19
  go_wp2_with fail
  go_loopw [10] (fun i wr => ∃ (k : Nat), k ≤ z ∧ i = .int .i64 k ∧ FitR ((txts L).take k) ∧ Lib.IsBuilderF 76 5 w.heap.size w.heap.size (Lib.byteCells (wraps ((txts L).take k))) wr ∧ (k = 0 → wr.heap[w.heap.size]? = some (.cells #[.pointer none, .slice none 0 0] 76 (0, 0))) ∧ Below w.heap.size w wr) (fun i _ => z - (intOf i).toNat)
  case atStart => exact ⟨0, Nat.zero_le _, rfl, ⟨fun t h => (by cases h), Nat.zero_le _⟩, HI0.out, fun _ => HN0.out, HB0.out⟩
  case round =>
    clear HI0 HB0 HN0
    obtain ⟨k, hk, rfl, hfr, hIB, hnl, hB⟩ := hrel
    have HB := Lib.hid hB; have HFR := Lib.hid hfr; have HIB := Lib.hid hIB; have HNL := Lib.hid hnl
    by_cases hlt : k < z
    · have hko : k < L.length := by have := HZ.out; omega
      obtain ⟨_, _, _, hev, _, hc⟩ := HI.out.stays hB
      rw [← HZ.out] at hev
      cases hev
      obtain ⟨b1, o1, rfl, hbl, g1⟩ := hc (by omega)
      have q0 := g1 k hko
      have HTK : Hid ((txts L).take (k + 1) = (txts L).take k ++ [L[k].data.toList]) := Lib.hid (by rw [List.take_succ_eq_append_getElem (by rw [txts_len]; exact hko), txts_get hko])
      have HME : Hid (L[k].data.toList ∈ txts L) := Lib.hid (List.mem_map.2 ⟨L[k], List.getElem_mem hko, rfl⟩)
      have hym := HM.out _ (List.getElem_mem hko)
      obtain ⟨y, hy⟩ : ∃ y, y = L[k]'hko := ⟨_, rfl⟩
      rw [← hy] at q0 HTK HME hym
      have hbk : decide ((k : Int) < (z : Int)) = true := by simpa using (show (k : Int) < z by omega)
      have C := Wrap_any y hym wr
      obtain ⟨W, hW⟩ : ∃ W, W = strT (fwrap y.data.toList) := ⟨_, rfl⟩
      rw [show (⟨(fwrap y.data.toList).toArray⟩ : ByteArray) = W from hW.symm] at C
      have HC := Lib.hid C; have HW := Lib.hid hW
      have HWS : Hid (W.size = (fwrap y.data.toList).length) := Lib.hid (by rw [hW, strT_size])
      obtain ⟨X, hX⟩ : ∃ X, X = (wraps ((txts L).take k)).length := ⟨_, rfl⟩
      have HX := Lib.hid hX
      have hxs : X ≤ 65536 := by rw [hX]; exact hfr.2
      have hws : W.size ≤ 65550 := by
        rw [HWS.out]
        by_cases hle : y.data.toList.length ≤ 65536
        · have := (fwrap_len hle).2; omega
        · rw [fwrap_long (by omega)]; simp
      have HYS := Lib.hid (dsize y)
      have hbad : ((fwrap y.data.toList) = [] ∨ 65536 < (wraps ((txts L).take k)).length + (fwrap y.data.toList).length) → Hid (framesT (txts L) = ([], false)) := fun hh => Lib.hid (framesT_no fun c => by
        rcases hh with hh | hh
        · exact fwrap_ne (c.1 _ HME.out) hh
        · have h1 := wraps_take (txts L) (k + 1)
          rw [HTK.out, wraps_app, List.length_append] at h1
          have h2 : (wraps [y.data.toList]).length = (fwrap y.data.toList).length := by unfold wraps; simp
          have := c.2
          omega)
      clear g1 hc hy C hW hB hfr hko hym hX hIB hnl
      by_cases he : fwrap y.data.toList = []
      · have HN := hbad (.inl he)
        have hw0 := isE_yes (s := W) (by rw [HWS.out, he]; rfl)
        clear hbad he
        go_wp2_with fail
        refine HC.out.mono ?_
        rintro e w1 ⟨rfl, hb1⟩
        have HB1 := Lib.hid (below_step HB.out hb1)
        clear hb1
        go_wp2_with fail
        exact bodyPost_ret (v := .tuple #[.string ⟨#[]⟩, .bool false]) (by simp [results, Tryz.results19, go_sem]) rfl ⟨by rw [HN.out]; rfl, HB1.out⟩
      · have hw0 := isE_no (s := W) (by rw [HWS.out]; exact fun e => he (List.length_eq_zero_iff.1 e))
        have hsum : IntKind.i64.wrap ((X : Int) + (W.size : Int)) = (X : Int) + (W.size : Int) := IntWalk.i64_in _ (by omega)
        have CL : ∀ w1, Below wr.heap.size wr w1 → Hid (Calls Tryz.prog 39 #[.pointer (some ⟨w.heap.size, 0, none⟩)] w1 fun e w' => e = .returned (.int .i64 X) ∧ w1 = w') := fun w1 hb => Lib.hid (by
          have := Len_k w.heap.size w.heap.size _ w1 (builder_step HIB.out hb)
          rw [Lib.byteCells_length, ← HX.out] at this
          exact this)
        by_cases hg : 65536 < (X : Int) + (W.size : Int)
        · have HN := hbad (.inr (by have := HWS.out; have := HX.out; omega))
          have d1 : decide (65536 < (X : Int) + (W.size : Int)) = true := decide_eq_true hg
          clear hbad he hg
          go_wp2_with fail
          refine HC.out.mono ?_
          rintro e w1 ⟨rfl, hb1⟩
          have HL1 := CL w1 hb1
          have HB1 := Lib.hid (below_step HB.out hb1)
          clear hb1
          go_wp2_with fail
          refine HL1.out.mono ?_
          rintro e w2 ⟨rfl, rfl⟩
          go_wp2_with fail
          exact bodyPost_ret (v := .tuple #[.string ⟨#[]⟩, .bool false]) (by simp [results, Tryz.results19, go_sem]) rfl ⟨by rw [HN.out]; rfl, HB1.out⟩
        · have d1 : decide (65536 < (X : Int) + (W.size : Int)) = false := decide_eq_false hg
          have HFN : Hid (FitR ((txts L).take (k + 1))) := Lib.hid (by
            rw [HTK.out]
            refine ⟨fun t ht => ?_, ?_⟩
            · rcases List.mem_append.1 ht with ht | ht
              · exact HFR.out.1 t ht
              · rw [List.mem_singleton.1 ht]
                exact Classical.byContradiction fun c => he (fwrap_long (by omega))
            · rw [wraps_app, List.length_append]
              have h2 : (wraps [y.data.toList]).length = (fwrap y.data.toList).length := by unfold wraps; simp
              have := HWS.out; have := HX.out; omega)
          have HCN : Hid (Lib.byteCells (wraps ((txts L).take k)) ++ Lib.strCells W = Lib.byteCells (wraps ((txts L).take (k + 1)))) := Lib.hid (by
            have e1 : Lib.strCells W = Lib.byteCells (fwrap y.data.toList) := by rw [HW.out]; show Lib.byteCells (strT _).data.toList = _; rw [strT_txt]
            rw [e1, HTK.out, wraps_app]
            have h2 : wraps [y.data.toList] = fwrap y.data.toList := by unfold wraps; simp
            rw [h2]
            exact (Lib.byteCells_append _ _).symm)
          clear hbad he hg
          go_wp2_with fail
          refine HC.out.mono ?_
          rintro e w1 ⟨rfl, hb1⟩
          have HL1 := CL w1 hb1
          have HI1 := Lib.hid (builder_step HIB.out hb1)
          have HB1 := Lib.hid (below_step HB.out hb1)
          clear hb1
          go_wp2_with fail
          refine HL1.out.mono ?_
          rintro e w2 ⟨rfl, rfl⟩
          go_wp2_with fail
          refine (WriteString_k_Bus w.heap.size w.heap.size _ W _ HI1.out (by rw [Lib.byteCells_length, ← HX.out]; omega) HB1.out.size).mono ?_
          rintro e w3 ⟨rfl, hI3, hb3, _⟩
          have HI3 : Hid (Lib.IsBuilderF 76 5 w.heap.size w.heap.size (Lib.byteCells (wraps ((txts L).take (k + 1)))) w3) := Lib.hid (.inr (by rw [← HCN.out]; exact hI3))
          have HB3 := Lib.hid (HB1.out.trans hb3)
          clear hI3 hb3 CL
          go_wp2_with fail
          go_roundw
          case rel => exact ⟨k + 1, by omega, by go_num, HFN.out, HI3.out, fun h => absurd h (by omega), HB3.out⟩
          case measure => simp [intOf]; omega
    · obtain rfl : k = z := by omega
      have hbk : decide ((k : Int) < (k : Int)) = false := by simp
      have htk : (txts L).take k = txts L := List.take_of_length_le (by rw [txts_len]; have := HZ.out; omega)
      have HY : Hid (framesT (txts L) = (wraps (txts L), true)) := Lib.hid (framesT_yes (by
        have h9 := HFR.out
        rwa [htk] at h9))
      rw [htk] at HIB
      have hfr' := HFR.out
      rw [htk] at hfr'
      by_cases h0 : wraps (txts L) = []
      · have hk0 : k = 0 := by
          have := (wraps_nil_iff hfr'.1).1 h0
          have h2 := txts_len L
          rw [this] at h2
          have := HZ.out
          simp at h2
          omega
        have CS := Lib.hid (String_nil_k w.heap.size w.heap.size (.pointer none) wr (HNL.out hk0))
        have HE := Lib.hid h0
        clear hfr' hfr htk h0 hIB hnl hk0
        go_wp2_with fail
        refine CS.out.mono ?_
        rintro e w3 ⟨rfl, hb3⟩
        have HB3 := Lib.hid (HB.out.trans hb3)
        clear hb3
        go_wp2_with fail
        exact bodyPost_ret (v := .tuple #[.string ⟨#[]⟩, .bool true]) (by simp [results, Tryz.results19, go_sem]) rfl ⟨by rw [HY.out, HE.out]; rfl, HB3.out⟩
      · have CS := Lib.hid (String_full_k w.heap.size w.heap.size _ wr HIB.out h0)
        obtain ⟨S, hS⟩ : ∃ S, S = strT (wraps (txts L)) := ⟨_, rfl⟩
        rw [show (⟨(wraps (txts L)).toArray⟩ : ByteArray) = S from hS.symm] at CS
        have HS := Lib.hid hS
        clear hfr' hfr htk h0 hIB hnl hS
        go_wp2_with fail
        refine CS.out.mono ?_
        rintro e w3 ⟨rfl, _, hb3, _⟩
        have HB3 := Lib.hid (HB.out.trans hb3)
        clear hb3
        go_wp2_with fail
        exact bodyPost_ret (v := .tuple #[.string S, .bool true]) (by simp [results, Tryz.results19, go_sem]) rfl ⟨by rw [HY.out, HS.out], HB3.out⟩
end Go.Proofs.YtalknbadakfppaaGreat

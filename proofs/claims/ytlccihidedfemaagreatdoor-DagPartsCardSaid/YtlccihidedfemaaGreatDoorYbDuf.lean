/-
  DagParts as a walk over this translation.
-/
import Derived.Test.YtlccihidedfemaaGreatDoorYbDue
import Derived.Test.YtlccihidedfemaaGreatDoorQb5
import Derived.Lib.AppendZerosOnto
import Derived.Lib.Overlaps
import Derived.Laws.CopyRow
import Derived.Laws.NewBlocks
import Derived.Deep.RegionLaw
import Derived.StillTailTactics
import Derived.Deep.RegionWith
import Derived.Test.YtlccihidedfemaaGreatDoorQb3
set_option linter.unusedVariables false
namespace Go.Proofs.YtlccihidedfemaaGreatDoor
open Go.RowKit
attribute [local go_sem] Oper.semAt_some
def PrtP (w0 Vc : World) (mn av mx : Int) (W : World) : Prop := OneP w0 mn av mx W ∧ Below Vc.heap.size Vc W ∧ w0.heap.size < Vc.heap.size ∧ Tabs w0
theorem PrtP.on {w0 V W W' : World} {mn av mx : Int} (h : PrtP w0 V mn av mx W) (hb : Below W.heap.size W W') : PrtP w0 V mn av mx W' := ⟨h.1.on hb, below_step h.2.1 hb, h.2.2⟩
theorem PrtP.grow {w0 V W W' : World} {mn av mx : Int} (h : PrtP w0 V mn av mx W) (hb : Below V.heap.size W W') : PrtP w0 V mn av mx W' := ⟨h.1.grow h.2.2.1 h.2.2.2 hb, h.2.1.trans hb, h.2.2⟩
theorem sum_31 : ∀ L : List (List UInt8), (∀ n ∈ L, nameB n = true) → (L.map List.length).sum ≤ 31 * L.length
 | [], _ => Nat.le_refl _
 | a :: L, h => by
  have := sum_31 L fun n hn => h n (List.mem_cons_of_mem _ hn)
  have h1 := (nameB_iff.1 (h a (by simp))).2.1
  simp only [List.map_cons, List.sum_cons, List.length_cons]; omega
theorem path_len {t : List UInt8} (h : pathB t = true) : t.length ≤ 255 := by
 have P := path_ok h
 have hn := P.names; have h8 := P.len
 rw [P.pts] at hn h8
 have := sum_31 (pts t) hn
 rcases joinS_len (pts t) with e | e
 ·rw [joinS_pts] at e; omega
 ·exact absurd e (pts_ne t)
theorem up_size {x : It} : (upI x).p.size = x.p.size + 3 := by
 unfold upI
 rw [Lib.size_eq, Lib.size_eq]
 simp [upL, It.t]
theorem up_few {m a b x : Nat} {I : List It} (h : FewAt m a b x I) (hl : I.length ≤ 40) : (upT I).length ≤ 41 ∧ ∀ y ∈ upT I, y.p.size ≤ 258 ∧ y.c.size ≤ 32768 := by
 refine ⟨by unfold upT; rw [List.length_cons, List.length_map]; omega, fun y hy => ?_⟩
 rcases List.mem_cons.1 hy with rfl | hy
 ·exact ⟨by decide, by decide⟩
 ·obtain ⟨z, hz, rfl⟩ := List.mem_map.1 hy
  have := path_len (h.rdy.fit.path z hz)
  refine ⟨?_, h.rdy.fit.data z hz⟩
  rw [up_size, Lib.size_eq]
  have e : z.p.data.toList = z.t := rfl
  rw [e]; omega
theorem up_fewB {m a b x : Nat} {I : List It} (h : FewAt m a b x I) (hl : I.length ≤ 40) : fewB (upT I) = true :=
 few_mk (by have := (up_few h hl).1; omega) fun y hy => ⟨by have := ((up_few h hl).2 y hy).1; omega, by have := ((up_few h hl).2 y hy).2; omega⟩
theorem up_at {m a b x : Nat} {I : List It} (h : FewAt m a b x I) (hl : I.length ≤ 40) (hr : rdyB m a x (upT I) = true) : FewAt m a b x (upT I) := by
 obtain ⟨m', a', x', b', h1, h2, h3, hF, hR⟩ := rdyB_iff.1 hr
 obtain rfl : m = m' := by omega
 obtain rfl : a = a' := by omega
 obtain rfl : x = x' := by omega
 obtain rfl : b = b' := fitAt_one h.fit hF
 exact ⟨hF, hR, fun y hy => by have := ((up_few h hl).2 y hy).1; omega, by have := (up_few h hl).1; omega⟩
theorem upT_take {I : List It} {k : Nat} (hk : k < I.length) : upT (I.take (k + 1)) = upT (I.take k) ++ [upI I[k]] := by
 unfold upT
 rw [List.take_succ_eq_append_getElem hk, List.map_append]; rfl
theorem upI_p (x : It) : (⟨#[117, 112, 47]⟩ : ByteArray) ++ x.p = (upI x).p := by
 apply ob_bytes
 rw [bytes_app]
 unfold upI
 simp [upL, It.t]
theorem up_three {m a b x : Nat} {I : List It} (h : FewAt m a b x I) (k : FewAt m a b x (upT I)) (hc : ¬ Clash (rawsT (cutN m b x) I ++ rawsT (cutN m b x) (upT I))) :
  (∀ y ∈ objsT (cutN m b x) I, getO (objsT (cutN m b x) (upT I)) y.t = some y) ∧ (⟨(keyN (topT (cutN m b x) (upT I))).toArray⟩ : ByteArray) ≠ ⟨(keyN (topT (cutN m b x) I)).toArray⟩ ∧ (objsT (cutN m b x) (upT I)).length = (objsT (cutN m b x) I).length + 1 := by
 obtain ⟨h1, h2, h3⟩ := up_objs hc h.rdy k.rdy (fun n hn => List.mem_append_left _ (raw_mem hn)) (fun n hn => List.mem_append_right _ (raw_mem hn))
 exact ⟨h1, fun e => h2 (bytes_list e), h3⟩
theorem objs_few {m a b x : Nat} {I : List It} (h : FewAt m a b x I) : (objsT (cutN m b x) I).length ≤ 70000 := by
 have h1 := (putsN_len [] (seqT (cutN m b x) I)).2
 have h2 := seqT_len h.rdy
 unfold objsT
 simp at h1; omega
theorem wpList_append_item2 {ops : Array Oper} {rest : List Oper} {o : Oper} {a : Act} {W w0 : World} {z : Nat} {Q : Exit → Act → World → Prop} (hgd : o.guard = none) (s x : Operand)
  (ho : o.op = .call { callee := .builtin .append, args := #[s, x], argTypes := #[24, 24] })
  {v : Value} {M : List It} {y : It} (hown : OwnI W.heap.size w0 v M) (hb : Below W.heap.size W w0) (hz : z = w0.heap.size) (hs : a.eval s = v)
  (hx : a.eval x = .slice (some ⟨z, 0, none⟩) 1 1) (hlen : M.length ≤ 1000000)
  (h : ∀ v' w', OwnI W.heap.size w' v' (M ++ [y]) → Below W.heap.size W w' → wpList Tryz.prog ops Q rest (a.put o.dst v') w') :
  wpList Tryz.prog ops Q (o :: rest) a (w0.alloc (.cells #[.string y.p, .bool y.d, .bool y.e, .string y.c] 51)) := by
 subst hz
 exact wpList_append_item hgd s x ho hown hb hs hx hlen h
theorem up_lit (w : World) : OwnI w.heap.size (w.alloc (.cells #[.string ⟨#[117, 112]⟩, .bool true, .bool false, .string ⟨#[]⟩] 51)) (.slice (some ⟨w.heap.size, 0, none⟩) 1 1) (upT []) :=
 World.ownsRow_lit w _ 1 (Nat.le_refl _) (by unfold maxLen; simp) rfl
def dpoU (w0 Vc : World) (m a x : Int) (mv : Value) : Nat → Value → Value → World → Prop
 | 0 => fun v _ _ => v = pV m a x
 | 1 => fun v _ _ => v = mv
 | 2 => fun v _ _ => v = .bool false
 | 3 => fun v _ _ => v = .bool true
 | 4 => fun v _ _ => v = .bool true
 | 5 => fun _ _ _ => True
 | 6 => fun _ _ _ => True
 | 7 => fun _ _ _ => True
 | 8 => fun _ _ _ => True
 | 9 => fun _ _ _ => True
 | 10 => fun _ _ _ => True
 | 11 => fun _ _ _ => True
 | 12 => fun _ _ _ => True
 | 13 => fun v _ _ => v = .bool true
 | _ => fun _ _ _ => True
def dpoN : List (List Nat) := [[], [], [0, 1], [2], [3], [4], [4], [5, 6, 4], [4], [4], [8, 9, 4], [7, 10, 4], [11, 4], [4, 12]]
def dpoE : Nat → Option Tmp
 | _ => none
def dpoB : List (Nat × Nat) := []
theorem dpo_T (w0 Vc : World) (m a x : Int) (mv : Value) (ix kx : Nat) (v e : Value) (w w' : World) (hk : kx < 14) (hne : kx ≠ ix) (hbd : (ix, kx) ∉ dpoB) (hU : (dpoU w0 Vc m a x mv) kx v e w) (hT : allT ix w w') : (dpoU w0 Vc m a x mv) kx v e w' := by
 have hb : Below w.heap.size w w' := hT
 rcases (show kx = 0 ∨ kx = 1 ∨ kx = 2 ∨ kx = 3 ∨ kx = 4 ∨ kx = 5 ∨ kx = 6 ∨ kx = 7 ∨ kx = 8 ∨ kx = 9 ∨ kx = 10 ∨ kx = 11 ∨ kx = 12 ∨ kx = 13 by omega) with rfl | rfl | rfl | rfl | rfl | rfl | rfl | rfl | rfl | rfl | rfl | rfl | rfl | rfl
 iterate 14 exact hU
def dprU (w0 Vc : World) (m a x : Int) (iv mv : Value) (T1 T2 : List (List UInt8)) (cb : Bool) : Nat → Value → Value → World → Prop
 | 0 => fun v _ _ => v = pV m a x
 | 1 => fun v _ _ => v = mv
 | 2 => fun v _ _ => v = .bool true
 | 3 => fun v _ _ => v = .bool false
 | 4 => fun v _ _ => v = .bool false
 | 5 => fun v _ _ => v = pV m a x
 | 6 => fun v _ _ => v = iv
 | 7 => fun v _ w => OwnTxt Vc w v T1
 | 8 => fun v _ _ => v = pV m a x
 | 9 => fun v _ _ => v = mv
 | 10 => fun v _ w => OwnTxt Vc w v T2
 | 11 => fun v _ w => OwnTxt Vc w v (T1 ++ T2)
 | 12 => fun v _ _ => v = .bool cb
 | 13 => fun v _ _ => v = .bool cb
 | _ => fun _ _ _ => True
def dprN : List (List Nat) := [[], [], [0, 1], [2], [3], [4], [4], [5, 6, 4], [4], [4], [8, 9, 4], [7, 10, 4], [11, 4], [4, 12]]
def dprE : Nat → Option Tmp
 | _ => none
def dprB : List (Nat × Nat) := [(11, 7), (11, 10)]
theorem dpr_T (w0 Vc : World) (m a x : Int) (iv mv : Value) (T1 T2 : List (List UInt8)) (cb : Bool) (ix kx : Nat) (v e : Value) (w w' : World) (hk : kx < 14) (hne : kx ≠ ix) (hbd : (ix, kx) ∉ dprB) (hU : (dprU w0 Vc m a x iv mv T1 T2 cb) kx v e w) (hT : (appT 11 (Below Vc.heap.size)) ix w w') : (dprU w0 Vc m a x iv mv T1 T2 cb) kx v e w' := by
 by_cases hi11 : ix = 11
 ·subst hi11
  have hR := appT_in hT
  rcases (show kx = 0 ∨ kx = 1 ∨ kx = 2 ∨ kx = 3 ∨ kx = 4 ∨ kx = 5 ∨ kx = 6 ∨ kx = 7 ∨ kx = 8 ∨ kx = 9 ∨ kx = 10 ∨ kx = 11 ∨ kx = 12 ∨ kx = 13 by omega) with rfl | rfl | rfl | rfl | rfl | rfl | rfl | rfl | rfl | rfl | rfl | rfl | rfl | rfl
  iterate 7 exact hU
  ·exact absurd (by decide) hbd
  ·exact hU
  ·exact hU
  ·exact absurd (by decide) hbd
  ·exact absurd rfl hne
  ·exact hU
  ·exact hU
 have hb : Below w.heap.size w w' := appT_out hi11 hT
 rcases (show kx = 0 ∨ kx = 1 ∨ kx = 2 ∨ kx = 3 ∨ kx = 4 ∨ kx = 5 ∨ kx = 6 ∨ kx = 7 ∨ kx = 8 ∨ kx = 9 ∨ kx = 10 ∨ kx = 11 ∨ kx = 12 ∨ kx = 13 by omega) with rfl | rfl | rfl | rfl | rfl | rfl | rfl | rfl | rfl | rfl | rfl | rfl | rfl | rfl
 iterate 7 exact hU
 ·exact OwnTxt.stays hU hb
 ·exact hU
 ·exact hU
 ·exact OwnTxt.stays hU hb
 ·exact OwnTxt.stays hU hb
 ·exact hU
 ·exact hU
set_option maxRecDepth 100000 in
set_option maxHeartbeats 40000000 in
theorem DagParts_w (mn av mx : Int) (iv : Value) (I : List It) (w0 : World) (hi : IsItems w0 iv I) (hz : ∀ x ∈ I, x.c.size ≤ 281474976710656) (hT : Tabs w0) :
  Calls Tryz.prog 7 #[pV mn av mx, iv] w0 fun e w' => e = .returned (.bool true) ∧ Below w0.heap.size w0 w' := by
 obtain ⟨V, hV⟩ : ∃ V, V = w0.alloc (.cells #[.int .i64 mn, .int .i64 av, .int .i64 mx] 23) := ⟨_, rfl⟩
 have HH : Hid (OneP w0 mn av mx V) := Lib.hid (by rw [hV]; exact oneP_new w0 mn av mx hT)
 have HV := Lib.hid hV; have HT0 := Lib.hid hT
 have HI := Lib.hid hi
 have AW : Hid (∀ W, OneP w0 mn av mx W → _) := Lib.hid fun W h => awake_any W h.2.2
 have FW : Hid (∀ W, OneP w0 mn av mx W → _) := Lib.hid fun W h => fewT_any mn av mx iv I W (HI.out.stays h.2.1) hz
 obtain ⟨c0, c1, c2⟩ := HH.out.cells
 obtain ⟨hmi, ai, capi, rfl, _, _⟩ := hi
 have hmi2 : I.length ≤ 9223372036854775807 := by unfold maxLen at hmi; omega
 clear hV hT hz hmi
 rcases hf : fewTB mn av mx I with _ | _
 ·rw [hf] at FW
  go_enter Tryz.func7, Tryz.ntmps7
  go_wp2_with fail
  rw [← HV.out]
  go_wp2_with fail
  with_reducible refine (FW.out _ HH.out).mono ?_
  rintro e w1 ⟨rfl, hb⟩
  replace HH := Lib.hid (HH.out.on hb)
  clear hb c0 c1 c2
  obtain ⟨c0, c1, c2⟩ := HH.out.cells
  go_wp2_with fail
  with_reducible refine (AW.out _ HH.out).mono ?_
  rintro e w9 ⟨rfl, hb⟩
  go_wp2
  go_ret
  exact ⟨rfl, below_step HH.out.2.1 hb⟩
 ·rw [hf] at FW
  by_cases h40 : I.length ≤ 40
  ·have hq40 : decide ((40 : Int) < (I.length : Int)) = false := by simp; omega
   obtain ⟨m, a, b, x, rfl, rfl, rfl, hF⟩ := few_at hf
   have HF := Lib.hid hF
   have HFB := Lib.hid (up_fewB hF h40)
   have H40 := Lib.hid h40
   clear hf hF h40
   go_enter Tryz.func7, Tryz.ntmps7
   go_wp2_with fail
   rw [← HV.out]
   go_wp2_with fail
   with_reducible refine (FW.out _ HH.out).mono ?_
   rintro e w1 ⟨rfl, hb⟩
   replace HH := Lib.hid (HH.out.on hb)
   clear hb c0 c1 c2
   obtain ⟨c0, c1, c2⟩ := HH.out.cells
   have HL0 := Lib.hid (up_lit w1)
   obtain ⟨W3, hW3⟩ : ∃ W3, W3 = w1.alloc (.cells #[.string ⟨#[117, 112]⟩, .bool true, .bool false, .string ⟨#[]⟩] 51) := ⟨_, rfl⟩
   have hb3 : Below w1.heap.size w1 W3 := by rw [hW3]; exact (Below.refl _ _).alloc (Nat.le_refl _) _
   rw [← hW3] at HL0
   have HW3 := Lib.hid hW3
   have HB3 := Lib.hid hb3
   clear hW3 hb3 c0 c1 c2
   go_wp2_with fail
   rw [← HW3.out]
   go_loopw [5, 30] (fun mv i wz => ∃ (k : Nat) (u : Value), k ≤ I.length ∧ i = .int .i64 k ∧ u = mv ∧ OwnI w1.heap.size wz u (upT (I.take k)) ∧ Below w1.heap.size w1 wz) (fun _ i _ => I.length - (intOf i).toNat)
   case atStart => exact ⟨0, _, Nat.zero_le _, rfl, rfl, HL0.out, HB3.out⟩
   case round =>
    obtain ⟨k, mv, hk, rfl, rfl, ho, hbz⟩ := hrel
    have HO := Lib.hid ho
    have HBZ := Lib.hid hbz
    clear ho hbz
    by_cases hlt : k < I.length
    ·obtain ⟨_, _, _, e, _, hc⟩ := HI.out.stays (below_step HH.out.2.1 HBZ.out)
     cases e
     obtain ⟨b1, off, rfl, hbl, g⟩ := hc (by omega)
     obtain ⟨q0, q1, q2, q3⟩ := g k hlt
     clear g hc
     have hbk : decide ((k : Int) < (I.length : Int)) = true := by simpa using (show (k : Int) < I.length by omega)
     have HTK := Lib.hid (upT_take hlt)
     have hps : I[k].p.size ≤ 400 := HF.out.p400 _ (List.getElem_mem hlt)
     obtain ⟨y, hy⟩ : ∃ y, I[k]'hlt = y := ⟨_, rfl⟩
     rw [hy] at q0 q1 q2 q3 HTK hps
     obtain ⟨P, hP⟩ : ∃ P, (⟨#[117, 112, 47]⟩ : ByteArray) ++ y.p = P := ⟨_, rfl⟩
     have HP : Hid (P = (upI y).p) := Lib.hid (by rw [← hP]; exact upI_p y)
     have hov : ¬ 9223372036854775807 < (⟨#[117, 112, 47]⟩ : ByteArray).size + y.p.size := by have : (⟨#[117, 112, 47]⟩ : ByteArray).size = 3 := rfl; omega
     have hba := (Below.refl wr.heap.size wr).alloc (Nat.le_refl _) (.cells #[.string P, .bool y.d, .bool y.e, .string y.c] 51)
     have HZ2 : Hid (wr.heap.size + 1 = (wr.alloc (.cells #[.string P, .bool y.d, .bool y.e, .string y.c] 51)).heap.size) := Lib.hid (by simp)
     have HO3 := Lib.hid (HO.out.stays hba)
     have HB4 := Lib.hid (below_step HBZ.out hba)
     clear hy hba
     have hml : (upT (I.take k)).length ≤ 1000000 := by have := H40.out; unfold upT; rw [List.length_cons, List.length_map, List.length_take]; omega
     go_wp2_with (at_builtin; refine wpList_append_item2 (y := ⟨P, y.d, y.e, y.c⟩) rfl _ _ rfl HO3.out HB4.out HZ2.out rfl rfl hml ?_)
     intro v' w2 hown' hb2
     have HO5 : Hid (OwnI w1.heap.size w2 v' (upT (I.take (k + 1)))) := Lib.hid (by rw [HTK.out]; rw [HP.out] at hown'; exact hown')
     clear hown' q0 q1 q2 q3
     go_wp2_with fail
     go_roundw
     case rel => exact ⟨k + 1, _, by omega, by go_num, rfl, HO5.out, hb2⟩
     case measure => simp [intOf]; omega
    ·have hge : decide ((k : Int) < (I.length : Int)) = false := by simp; omega
     have HMV : Hid (IsItems wr mv (upT I)) := Lib.hid (by have := HO.out.items; rwa [List.take_of_length_le (by omega)] at this)
     have HHr := Lib.hid (HH.out.on HBZ.out)
     obtain ⟨Vc, hVc⟩ : ∃ Vc, Vc = wr := ⟨_, rfl⟩
     have HG0 : Hid (PrtP w0 wr m a x wr) := Lib.hid ⟨HHr.out, Below.refl _ _, by have := HHr.out.1.lt; omega, HT0.out⟩
     have HG1 := Lib.hid (fun W (h : PrtP w0 wr m a x W) => HMV.out.stays h.2.1)
     clear hVc HO
     have RD : Hid (∀ W, PrtP w0 wr m a x W → _) := Lib.hid fun W h => rReady_any m a x mv (upT I) W (HG1.out W h) HFB.out
     rcases hrd : rdyB m a x (upT I) with _ | _
     ·rw [hrd] at RD
      clear hrd
      go_wp2_with fail
      refine wp_region_wordsG (by kernel_rfl) (by kernel_rfl) allT (PrtP w0 wr m a x) dpoE (dpoU w0 wr m a x mv) 14 dpoN [13] (by kernel_rfl) (by kernel_rfl) (by kernel_rfl)
       dpoB (by kernel_rfl) (fun ix kx v e w w' hi hk hne hb hU hT => dpo_T _ _ _ _ _ _  ix kx v e w w' hk hne hb hU hT) (by decide) (HG0.out.on ((Below.refl _ _).drew)) (fun k hk hge => absurd hk (Nat.not_lt.2 (show 14 ≤ k from hge)))
       [43, 44, 45, 46, 47, 48, 49, 50, 51, 52, 53, 54, 55, 56] (by kernel_rfl) (forall_ops ?steps) ?behind
      case steps =>
       refine ⟨?_, ?_, ?_, ?_, ?_, ?_, ?_, ?_, ?_, ?_, ?_, ?_, ?_, ?_, trivial⟩
       ·refine stepG_of rfl ?_
        exact stepR_value (t := 43) (pV m a x) rfl (fun _ => Below.refl _ _) (fun ac w hG hN hO => by
         have e2 : slot ac 2 = .pointer (some ⟨w0.heap.size, 0, none⟩) := hO 2 (by kernel_rfl)
         obtain ⟨c0, c1, c2⟩ := hG.1.cells
         have f2 := slot_at e2
         unfold execOp; go_simp) (fun ac w hG hN => rfl)
       ·refine stepG_of rfl ?_
        exact stepR_value (t := 44) (mv) rfl (fun _ => Below.refl _ _) (fun ac w hG hN hO => by
         have e5 : slot ac 5 = mv := hO 5 (by kernel_rfl)
         exact run_move_slot (.inl rfl) e5) (fun ac w hG hN => rfl)
       ·refine stepG_of rfl ?_
        intro ac w hG hN hO
        have e43 : slot ac 43 = pV m a x := hN 0 (by decide)
        have e44 : slot ac 44 = mv := hN 1 (by decide)
        refine wp_callx 29 _ _ rfl (enters_of Tryz.func29 (by kernel_rfl) rfl) #[pV m a x, mv] (by simp [eval_slot, e43, e44]) (calls_valN (RD.out w hG)) ?_
        rintro v w'' ⟨hv, hb⟩
        exact ⟨v, rfl, hb, hG.on hb, hv⟩
       ·refine stepG_of rfl ?_
        exact stepR_value (t := 46) (.bool true) rfl (fun _ => Below.refl _ _) (fun ac w hG hN hO => by
         have e45 : slot ac 45 = .bool false := hN 2 (by decide)
         have f45 := slot_at e45
         unfold execOp; go_simp) (fun ac w hG hN => rfl)
       ·refine stepG_of rfl ?_
        exact stepR_value (t := 47) (.bool true) rfl (fun _ => Below.refl _ _) (fun ac w hG hN hO => by
         have e46 : slot ac 46 = .bool true := hN 3 (by decide)
         exact run_move_slot (.inl rfl) e46) (fun ac w hG hN => rfl)
       ·exact stepG_off (j := 4) (b := false) rfl (by decide) (fun v e w h => h) (fun _ => Below.refl _ _) (fun _ _ _ => trivial)
       ·exact stepG_off (j := 4) (b := false) rfl (by decide) (fun v e w h => h) (fun _ => Below.refl _ _) (fun _ _ _ => trivial)
       ·exact stepG_off (j := 4) (b := false) rfl (by decide) (fun v e w h => h) (fun _ => Below.refl _ _) (fun _ _ _ => trivial)
       ·exact stepG_off (j := 4) (b := false) rfl (by decide) (fun v e w h => h) (fun _ => Below.refl _ _) (fun _ _ _ => trivial)
       ·exact stepG_off (j := 4) (b := false) rfl (by decide) (fun v e w h => h) (fun _ => Below.refl _ _) (fun _ _ _ => trivial)
       ·exact stepG_off (j := 4) (b := false) rfl (by decide) (fun v e w h => h) (fun _ => Below.refl _ _) (fun _ _ _ => trivial)
       ·exact stepG_off (j := 4) (b := false) rfl (by decide) (fun v e w h => h) (fun _ => Below.refl _ _) (fun _ _ _ => trivial)
       ·exact stepG_off (j := 4) (b := false) rfl (by decide) (fun v e w h => h) (fun _ => Below.refl _ _) (fun _ _ _ => trivial)
       ·refine stepG_of rfl ?_
        exact stepR_value (t := 56) (.bool true) rfl (fun _ => Below.refl _ _) (fun ac w hG hN hO => by
         have e47 : slot ac 47 = .bool true := hN 4 (by decide)
         have f47 := slot_at e47
         unfold execOp; go_simp) (fun ac w hG hN => rfl)
      case behind =>
       intro ac w5 hG hV hS ha
       have h13 : slot ac 56 = .bool true := hV 13 (by decide) (by decide)
       generalize slot ac = sl at ha h13
       subst ha
       simp only [patchL, List.contains_cons, List.contains_nil, Nat.reduceBEq, Bool.or_false, Bool.or_true, if_true, Bool.false_eq_true, if_false, Nat.reduceAdd]
       generalize sl 43 = s43
       generalize sl 44 = s44
       generalize sl 45 = s45
       generalize sl 46 = s46
       generalize sl 47 = s47
       generalize sl 48 = s48
       generalize sl 49 = s49
       generalize sl 50 = s50
       generalize sl 51 = s51
       generalize sl 52 = s52
       generalize sl 53 = s53
       generalize sl 54 = s54
       generalize sl 55 = s55
       generalize sl 56 = s56 at h13 ⊢
       subst h13
       clear hV hS
       have HG9 := Lib.hid hG.1
       clear hG
       go_wp2_with fail
       with_reducible refine (AW.out _ HG9.out).mono ?_
       rintro e w9 ⟨rfl, hb⟩
       go_wp2
       go_ret
       exact ⟨rfl, below_step HG9.out.2.1 hb⟩
     ·rw [hrd] at RD
      have hK := up_at HF.out H40.out hrd
      have hF := HF.out
      have HUP0 := up_three hF hK
      have hr1 := raws_few hF
      have hr2 := raws_few hK
      have CC0 := fun (v : Value) (w : World) => clash_txt (V := wr) (rawsT (cutN m b x) I ++ rawsT (cutN m b x) (upT I)) (fun t ht => (List.mem_append.1 ht).elim (hr1.2 t) (hr2.2 t)) (by rw [List.length_append]; omega) v w
      obtain ⟨K1, hK1⟩ : ∃ K : ByteArray, K = ⟨(keyN (topT (cutN m b x) I)).toArray⟩ := ⟨_, rfl⟩
      obtain ⟨K2, hK2⟩ : ∃ K : ByteArray, K = ⟨(keyN (topT (cutN m b x) (upT I))).toArray⟩ := ⟨_, rfl⟩
      obtain ⟨O1, hO1⟩ : ∃ O, O = objsT (cutN m b x) I := ⟨_, rfl⟩
      obtain ⟨O2, hO2⟩ : ∃ O, O = objsT (cutN m b x) (upT I) := ⟨_, rfl⟩
      rw [← hK1, ← hK2, ← hO1, ← hO2] at HUP0
      have B1 : Hid (∀ W, OneP w0 m a x W → Calls Tryz.prog 11 #[pV m a x, .slice ai I.length capi] W fun e w' => ∃ v', e = .returned (.tuple #[.string K1, v']) ∧ IsObs w' v' O1 ∧ Below W.heap.size W w') := Lib.hid fun W h => by rw [hK1, hO1]; exact hF.pBuild (HI.out.stays h.2.1) h.2.2
      have B2 : Hid (∀ W, OneP w0 m a x W → IsItems W mv (upT I) → Calls Tryz.prog 11 #[pV m a x, mv] W fun e w' => ∃ v', e = .returned (.tuple #[.string K2, v']) ∧ IsObs w' v' O2 ∧ Below W.heap.size W w') := Lib.hid fun W h hh => by rw [hK2, hO2]; exact hK.pBuild hh h.2.2
      have CR1 : Hid (∀ W, PrtP w0 wr m a x W → _) := Lib.hid fun W h => hF.raws (V := wr) (HI.out.stays h.1.2.1) h.2.1.size
      have CR2 : Hid (∀ W, PrtP w0 wr m a x W → _) := Lib.hid fun W h => hK.raws (V := wr) (HG1.out W h) h.2.1.size
      have HO2 : Hid (RiseO O2 ∧ O2.length ≤ 1000000) := Lib.hid (by rw [hO2]; exact ⟨(objs_fit _ _).1, Nat.le_trans (objs_few hK) (by decide)⟩)
      have HOL : Hid (O1.length ≤ 70000) := Lib.hid (by rw [hO1]; exact objs_few hF)
      obtain ⟨T1, hT1⟩ : ∃ T, T = rawsT (cutN m b x) I := ⟨_, rfl⟩
      obtain ⟨T2, hT2⟩ : ∃ T, T = rawsT (cutN m b x) (upT I) := ⟨_, rfl⟩
      rw [← hT1] at CR1 CC0 HUP0 hr1
      rw [← hT2] at CR2 CC0 HUP0 hr2
      have HLEN : Hid (T1.length + (strsOf T2).length ≤ 1000000) := Lib.hid (by rw [strsOf_len]; omega)
      obtain ⟨cb, hcb⟩ : ∃ cb, cb = clashB (T1 ++ T2) := ⟨_, rfl⟩
      rw [← hcb] at CC0
      have CC := Lib.hid CC0
      have HCB := Lib.hid hcb
      have HUP := Lib.hid (fun (e : false = clashB (T1 ++ T2)) => HUP0 (fun hc => by rw [clashB_yes hc] at e; cases e))
      clear hrd hF hK hr1 hr2 CC0 HUP0 hK1 hK2 hO1 hO2 hT1 hT2 hcb
      go_wp2_with fail
      refine wp_region_wordsG (by kernel_rfl) (by kernel_rfl) (appT 11 (Below wr.heap.size)) (PrtP w0 wr m a x) dprE (dprU w0 wr m a x (.slice ai I.length capi) mv T1 T2 cb) 14 dprN [13] (by kernel_rfl) (by kernel_rfl) (by kernel_rfl)
       dprB (by kernel_rfl) (fun ix kx v e w w' hi hk hne hb hU hT => dpr_T _ _ _ _ _ _ _ _ _ _  ix kx v e w w' hk hne hb hU hT) (by decide) (HG0.out.on ((Below.refl _ _).drew)) (fun k hk hge => absurd hk (Nat.not_lt.2 (show 14 ≤ k from hge)))
       [43, 44, 45, 46, 47, 48, 49, 50, 51, 52, 53, 54, 55, 56] (by kernel_rfl) (forall_ops ?steps) ?behind
      case steps =>
       refine ⟨?_, ?_, ?_, ?_, ?_, ?_, ?_, ?_, ?_, ?_, ?_, ?_, ?_, ?_, trivial⟩
       ·refine stepG_of rfl ?_
        exact stepR_value (t := 43) (pV m a x) rfl (fun _ => appT_other (by decide) (Below.refl _ _)) (fun ac w hG hN hO => by
         have e2 : slot ac 2 = .pointer (some ⟨w0.heap.size, 0, none⟩) := hO 2 (by kernel_rfl)
         obtain ⟨c0, c1, c2⟩ := hG.1.cells
         have f2 := slot_at e2
         unfold execOp; go_simp) (fun ac w hG hN => rfl)
       ·refine stepG_of rfl ?_
        exact stepR_value (t := 44) (mv) rfl (fun _ => appT_other (by decide) (Below.refl _ _)) (fun ac w hG hN hO => by
         have e5 : slot ac 5 = mv := hO 5 (by kernel_rfl)
         exact run_move_slot (.inl rfl) e5) (fun ac w hG hN => rfl)
       ·refine stepG_of rfl ?_
        intro ac w hG hN hO
        have e43 : slot ac 43 = pV m a x := hN 0 (by decide)
        have e44 : slot ac 44 = mv := hN 1 (by decide)
        refine wp_callx 29 _ _ rfl (enters_of Tryz.func29 (by kernel_rfl) rfl) #[pV m a x, mv] (by simp [eval_slot, e43, e44]) (calls_valN (RD.out w hG)) ?_
        rintro v w'' ⟨hv, hb⟩
        exact ⟨v, rfl, (appT_other (by decide) hb), hG.on hb, hv⟩
       ·refine stepG_of rfl ?_
        exact stepR_value (t := 46) (.bool false) rfl (fun _ => appT_other (by decide) (Below.refl _ _)) (fun ac w hG hN hO => by
         have e45 : slot ac 45 = .bool true := hN 2 (by decide)
         have f45 := slot_at e45
         unfold execOp; go_simp) (fun ac w hG hN => rfl)
       ·refine stepG_of rfl ?_
        exact stepR_value (t := 47) (.bool false) rfl (fun _ => appT_other (by decide) (Below.refl _ _)) (fun ac w hG hN hO => by
         have e46 : slot ac 46 = .bool false := hN 3 (by decide)
         exact run_move_slot (.inl rfl) e46) (fun ac w hG hN => rfl)
       ·refine stepG_on (j := 4) (b := false) rfl (by decide) (fun v e w h => h) ?_
        exact stepR_value (t := 48) (pV m a x) rfl (fun _ => appT_other (by decide) (Below.refl _ _)) (fun ac w hG hN hO => by
         have e2 : slot ac 2 = .pointer (some ⟨w0.heap.size, 0, none⟩) := hO 2 (by kernel_rfl)
         obtain ⟨c0, c1, c2⟩ := hG.1.cells
         have f2 := slot_at e2
         unfold execOp; go_simp) (fun ac w hG hN => rfl)
       ·refine stepG_on (j := 4) (b := false) rfl (by decide) (fun v e w h => h) ?_
        exact stepR_value (t := 49) ((.slice ai I.length capi)) rfl (fun _ => appT_other (by decide) (Below.refl _ _)) (fun ac w hG hN hO => by
         have e1 : slot ac 1 = (.slice ai I.length capi) := hO 1 (by kernel_rfl)
         exact run_move_slot (.inl rfl) e1) (fun ac w hG hN => rfl)
       ·refine stepG_on (j := 4) (b := false) rfl (by decide) (fun v e w h => h) ?_
        intro ac w hG hN hO
        have e48 : slot ac 48 = pV m a x := hN 5 (by decide)
        have e49 : slot ac 49 = (.slice ai I.length capi) := hN 6 (by decide)
        refine wp_callx 27 _ _ rfl (enters_of Tryz.func27 (by kernel_rfl) rfl) #[pV m a x, (.slice ai I.length capi)] (by simp [eval_slot, e48, e49]) (CR1.out w hG) ?_
        rintro v w'' ⟨hv, hb⟩
        exact ⟨v, rfl, (appT_other (by decide) hb), hG.on hb, hv⟩
       ·refine stepG_on (j := 4) (b := false) rfl (by decide) (fun v e w h => h) ?_
        exact stepR_value (t := 51) (pV m a x) rfl (fun _ => appT_other (by decide) (Below.refl _ _)) (fun ac w hG hN hO => by
         have e2 : slot ac 2 = .pointer (some ⟨w0.heap.size, 0, none⟩) := hO 2 (by kernel_rfl)
         obtain ⟨c0, c1, c2⟩ := hG.1.cells
         have f2 := slot_at e2
         unfold execOp; go_simp) (fun ac w hG hN => rfl)
       ·refine stepG_on (j := 4) (b := false) rfl (by decide) (fun v e w h => h) ?_
        exact stepR_value (t := 52) (mv) rfl (fun _ => appT_other (by decide) (Below.refl _ _)) (fun ac w hG hN hO => by
         have e5 : slot ac 5 = mv := hO 5 (by kernel_rfl)
         exact run_move_slot (.inl rfl) e5) (fun ac w hG hN => rfl)
       ·refine stepG_on (j := 4) (b := false) rfl (by decide) (fun v e w h => h) ?_
        intro ac w hG hN hO
        have e51 : slot ac 51 = pV m a x := hN 8 (by decide)
        have e52 : slot ac 52 = mv := hN 9 (by decide)
        refine wp_callx 27 _ _ rfl (enters_of Tryz.func27 (by kernel_rfl) rfl) #[pV m a x, mv] (by simp [eval_slot, e51, e52]) (CR2.out w hG) ?_
        rintro v w'' ⟨hv, hb⟩
        exact ⟨v, rfl, (appT_other (by decide) hb), hG.on hb, hv⟩
       ·refine stepG_on (j := 4) (b := false) rfl (by decide) (fun v e w h => h) ?_
        intro ac w hG hN hO
        have e1 : OwnTxt wr w (slot ac 50) T1 := hN 7 (by decide)
        have e2 : OwnTxt wr w (slot ac 53) T2 := hN 10 (by decide)
        refine wp_append_txts 50 53 rfl e1 hG.2.1.size e2.strs HLEN.out ?_
        intro v' w' hown' hg
        rw [txts_strsOf] at hown'
        have hbw : Below wr.heap.size w w' := (Below.refl _ _).grown hg hG.2.1.size (fun j hj => (World.ownsRow.lt e1 j hj).1)
        exact ⟨v', rfl, appT_at hbw, hG.grow hbw, hown'⟩
       ·refine stepG_on (j := 4) (b := false) rfl (by decide) (fun v e w h => h) ?_
        intro ac w hG hN hO
        have e54 : OwnTxt wr w (slot ac 54) (T1 ++ T2) := hN 11 (by decide)
        refine wp_callx 26 _ _ rfl (enters_of Tryz.func26 (by kernel_rfl) rfl) #[slot ac 54] (by simp [eval_slot]) (calls_valN (CC.out _ w e54)) ?_
        rintro v w'' ⟨hv, hb⟩
        exact ⟨v, rfl, (appT_other (by decide) hb), hG.on hb, hv⟩
       ·refine stepG_of rfl ?_
        exact stepR_value (t := 56) (.bool cb) rfl (fun _ => appT_other (by decide) (Below.refl _ _)) (fun ac w hG hN hO => by
         have e47 : slot ac 47 = .bool false := hN 4 (by decide)
         have e55 : slot ac 55 = .bool cb := hN 12 (by decide)
         have f47 := slot_at e47
         have f55 := slot_at e55
         unfold execOp; go_simp) (fun ac w hG hN => rfl)
      case behind =>
       intro ac w5 hG hV hS ha
       have h13 : slot ac 56 = .bool cb := hV 13 (by decide) (by decide)
       generalize slot ac = sl at ha h13
       subst ha
       simp only [patchL, List.contains_cons, List.contains_nil, Nat.reduceBEq, Bool.or_false, Bool.or_true, if_true, Bool.false_eq_true, if_false, Nat.reduceAdd]
       generalize sl 43 = s43
       generalize sl 44 = s44
       generalize sl 45 = s45
       generalize sl 46 = s46
       generalize sl 47 = s47
       generalize sl 48 = s48
       generalize sl 49 = s49
       generalize sl 50 = s50
       generalize sl 51 = s51
       generalize sl 52 = s52
       generalize sl 53 = s53
       generalize sl 54 = s54
       generalize sl 55 = s55
       generalize sl 56 = s56 at h13 ⊢
       subst h13
       clear hV hS
       have HG := Lib.hid hG
       have HG9 := Lib.hid hG.1
       clear hG
       rcases cb with _ | _
       ·have hup := HUP.out HCB.out
        have hup1 := hup.1
        have CG : Hid (∀ (y : Ob) (v : Value) W, y ∈ O1 → IsObs W v O2 → Calls Tryz.prog 18 #[v, .string y.k] W fun e w' => e = .returned (.tuple #[.string y.r, .bool true]) ∧ Below W.heap.size W w') := Lib.hid fun y v W hy h => by
         have hg : getO O2 y.k.data.toList = some y := hup1 y hy
         have := pGet_any v O2 y.k W h HO2.out.1 HO2.out.2; rwa [hg, gotO_some hg] at this
        have hkk : (K2.toList != K1.toList) = true := by rw [bne, beq_false hup.2.1]; rfl
        have HLN := Lib.hid hup.2.2
        clear hup hup1
        obtain ⟨c0, c1, c2⟩ := HG9.out.cells
        go_wp2_with fail
        with_reducible refine (B1.out _ HG9.out).mono ?_
        rintro e w7 ⟨v7, rfl, ho, hb⟩
        replace HG9 := Lib.hid (HG9.out.on hb)
        have HM7 := Lib.hid (HMV.out.stays (HG.out.on hb).2.1)
        have H7 := Lib.hid ho
        obtain ⟨hm9, a9, cap9, rfl, _, _⟩ := ho
        clear hb c0 c1 c2
        obtain ⟨c0, c1, c2⟩ := HG9.out.cells
        go_wp2_with fail
        with_reducible refine (B2.out _ HG9.out HM7.out).mono ?_
        rintro e w8 ⟨v8, rfl, ho2, hb⟩
        replace HG9 := Lib.hid (HG9.out.on hb)
        replace H7 := Lib.hid (H7.out.stays hb)
        have H8 := Lib.hid ho2
        obtain ⟨_, a10, cap10, rfl, _, _⟩ := ho2
        clear hb c0 c1 c2 HM7
        have hol := HOL.out
        have hmm9 : O1.length ≤ 9223372036854775807 := by omega
        have hll : ((O2.length : Int) == (O1.length : Int) + 1) = true := by have := HLN.out; simp; omega
        go_wp2_with fail
        go_loopw [72] (fun i wz => ∃ k : Nat, k ≤ O1.length ∧ i = .int .i64 k ∧ OneP w0 m a x wz ∧ IsObs wz (.slice a9 O1.length cap9) O1 ∧ IsObs wz (.slice a10 O2.length cap10) O2) (fun i _ => O1.length - (intOf i).toNat)
        case atStart => exact ⟨0, Nat.zero_le _, rfl, HG9.out, H7.out, H8.out⟩
        case round =>
         obtain ⟨k2, hk2, rfl, hg1, hg2, hg3⟩ := hrel
         have J1 := Lib.hid hg1; have J2 := Lib.hid hg2; have J3 := Lib.hid hg3
         clear hg1 hg2 hg3
         by_cases hlt2 : k2 < O1.length
         ·obtain ⟨_, _, _, e, _, hc⟩ := J2.out
          cases e
          obtain ⟨b1, off, rfl, hbl, g⟩ := hc (by omega)
          obtain ⟨q0, q1⟩ := g k2 hlt2
          clear g hc
          have hbk2 : decide ((k2 : Int) < (O1.length : Int)) = true := by simpa using (show (k2 : Int) < O1.length by omega)
          have CYk := Lib.hid (fun v W => CG.out _ v W (List.getElem_mem hlt2))
          obtain ⟨y, hy⟩ : ∃ y, O1[k2]'hlt2 = y := ⟨_, rfl⟩
          rw [hy] at q0 q1 CYk
          obtain ⟨W2, hW2⟩ : ∃ W2, W2 = wr.alloc (.cells #[.string y.k, .string y.r] 33) := ⟨_, rfl⟩
          have hba : Below wr.heap.size wr W2 := by rw [hW2]; exact (Below.refl _ _).alloc (Nat.le_refl _) _
          have HYB : Hid (ObBox W2 wr.heap.size y) := Lib.hid (by rw [hW2]; exact obBox_new wr y _)
          have HW2 := Lib.hid hW2
          have J4 := Lib.hid (J1.out.on hba); have J5 := Lib.hid (J2.out.stays hba); have J6 := Lib.hid (J3.out.stays hba)
          have hyy : (y.r.toList != y.r.toList) = false := by simp
          clear hy hba hW2
          go_wp2_with fail
          rw [← HW2.out]
          with_reducible refine (CYk.out _ _ J6.out).mono ?_
          rintro e w11 ⟨rfl, hb⟩
          have J7 := Lib.hid (J4.out.on hb); have J8 := Lib.hid (J5.out.stays hb); have J9 := Lib.hid (J6.out.stays hb)
          obtain ⟨z0, z1⟩ := (HYB.out.stays hb).cells
          have zl := (HYB.out.stays hb).2
          clear hb q0 q1
          go_wp2
          go_roundw
          case rel => exact ⟨k2 + 1, by omega, by go_num, J7.out, J8.out, J9.out⟩
          case measure => simp [intOf]; omega
         ·have hge2 : decide ((k2 : Int) < (O1.length : Int)) = false := by simp; omega
          have hk3 : (K2.toList == K1.toList) = false := by simpa [bne] using hkk
          have hll2 : ((O2.length : Int) == (O1.length : Int) + 1) = true := hll
          have hO12 : O2.length = O1.length + 1 := by simp at hll; omega
          go_wp2_with fail
          with_reducible refine (AW.out _ J1.out).mono ?_
          rintro e w12 ⟨rfl, hb⟩
          go_wp2
          go_ret
          exact ⟨rfl, below_step J1.out.2.1 hb⟩
       ·go_wp2_with fail
        with_reducible refine (AW.out _ HG9.out).mono ?_
        rintro e w9 ⟨rfl, hb⟩
        go_wp2
        go_ret
        exact ⟨rfl, below_step HG9.out.2.1 hb⟩
  ·have hq40 : decide ((40 : Int) < (I.length : Int)) = true := by simp; omega
   clear h40 hf
   go_enter Tryz.func7, Tryz.ntmps7
   go_wp2_with fail
   rw [← HV.out]
   go_wp2_with fail
   with_reducible refine (FW.out _ HH.out).mono ?_
   rintro e w1 ⟨rfl, hb⟩
   replace HH := Lib.hid (HH.out.on hb)
   clear hb c0 c1 c2
   obtain ⟨c0, c1, c2⟩ := HH.out.cells
   go_wp2_with fail
   with_reducible refine (AW.out _ HH.out).mono ?_
   rintro e w9 ⟨rfl, hb⟩
   go_wp2
   go_ret
   exact ⟨rfl, below_step HH.out.2.1 hb⟩
end Go.Proofs.YtlccihidedfemaaGreatDoor

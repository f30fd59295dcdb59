/-
  DagUnlike as a walk over this translation.
-/
import Derived.Test.YtlccihidedfemaaGreatDoorQb9
import Derived.Test.YtlccihidedfemaaGreatDoorYbDod
import Derived.Test.YtlccihidedfemaaGreatDoorYbDor
set_option linter.unusedVariables false
namespace Go.Proofs.YtlccihidedfemaaGreatDoor
open Go.RowKit
attribute [local go_sem] Oper.semAt_some
theorem OneP.grow {w0 V W W' : World} {mn av mx : Int} (h : OneP w0 mn av mx W) (hV : w0.heap.size < V.heap.size) (hT : Tabs w0) (hb : Below V.heap.size W W') : OneP w0 mn av mx W' :=
 have hb' : Below w0.heap.size w0 W' := h.2.1.trans (hb.mono (Nat.le_of_lt hV))
 ⟨h.1.below hb hV, hb', hT.stays hb'⟩
def TwoP (w0 V : World) (mn av mx : Int) (W : World) : Prop := OneP w0 mn av mx W ∧ w0.heap.size < V.heap.size ∧ V.heap.size ≤ W.heap.size ∧ Tabs w0
theorem TwoP.on {w0 V W W' : World} {mn av mx : Int} (h : TwoP w0 V mn av mx W) (hb : Below W.heap.size W W') : TwoP w0 V mn av mx W' := ⟨h.1.on hb, h.2.1, Nat.le_trans h.2.2.1 hb.size, h.2.2.2⟩
theorem TwoP.grow {w0 V W W' : World} {mn av mx : Int} (h : TwoP w0 V mn av mx W) (hb : Below V.heap.size W W') : TwoP w0 V mn av mx W' := ⟨h.1.grow h.2.1 h.2.2.2 hb, h.2.1, Nat.le_trans h.2.2.1 hb.size, h.2.2.2⟩
theorem wp_append_strs_Due {P : Program} {w : World} {o : Oper} {a : Act} {K : Act → World → Prop} {Q : Exit → Act → World → Prop} (s x : Operand) (t : TypeId)
  (ho : o.op = .call { callee := .builtin .append, args := #[s, x], argTypes := #[t, t] })
  (base : Nat) (e : TypeId) (i : TypeInfo) (z : Value) (bytes : Nat) (ht : P.underlying t = some (.slice e)) (hi : P.info? e = some i) (hz : i.zero = some z)
  (hsize : i.size = 1) (hby : i.bytes = bytes) (hzs : z.cells.size = 1)
  (v : Value) (M : List ByteArray) (hs : a.eval s = v) (hown : w.ownsRow base e 1 v M.length (strCells M)) (y : Value) (L : List ByteArray) (hx : a.eval x = y) (hL : IsStrs w y L)
  (h63 : M.length + L.length ≤ maxLen) (hbytes : (M.length + L.length) * bytes ≤ 140737488355328) (hbase : base ≤ w.heap.size)
  (h : ∀ v' w', w'.ownsRow base e 1 v' (M ++ L).length (strCells (M ++ L)) → w.grownBy w' v.ownBlock → K (a.put o.dst v') w') : o.wp P a w K Q := by
 obtain ⟨_, ad, cap, rfl, ⟨h0, _⟩, h1⟩ := hL
 cases ad with
 | none =>
  obtain ⟨rfl, rfl⟩ := h0 rfl
  have hrun := run_append_owned_none (P := P) (w := w) base t o.type e i 1 ht hi v M.length (strCells M) hown
  unfold Oper.wp
  simp [execOp, ho, resolve, invoke, builtin, hs, hx, hrun, Result.andThen]
  exact h v w (by simpa using hown) ⟨rfl, rfl, rfl, Nat.le_refl _, fun _ _ _ => rfl⟩
 | some ad =>
  refine wp_append_own w s x t ho base e i z 1 bytes ht hi hz hsize hby hzs (by decide) v M.length (strCells M) hs hown ad L.length cap (strCells L) hx (by rw [strCells_len]; omega) ?_ ?_ h63 hbytes hbase ?_
  ·intro j u hj
   have hjl : j < L.length := by
    have := (List.getElem?_eq_some_iff.1 hj).1
    rwa [strCells_len] at this
   rw [strCells_get hjl] at hj
   cases hj
   obtain ⟨b, off, e1, _, hc⟩ := h1 (by omega)
   cases e1
   rw [add_plain']; exact hc j hjl
  ·intro u hu
   obtain ⟨s, _, rfl⟩ := List.mem_map.1 hu
   rfl
  ·intro v' w' hown' hg _
   refine h v' w' ?_ hg
   rw [List.length_append, strCells_app]; exact hown'
theorem wp_append_txts {o : Oper} {a : Act} {W w : World} {K : Act → World → Prop} {Q : Exit → Act → World → Prop} (s x : Nat)
  (ho : o.op = .call { callee := .builtin .append, args := #[.tmp s, .tmp x], argTypes := #[38, 38] })
  {M : List (List UInt8)} {L : List ByteArray} (hown : OwnTxt W w (slot a s) M) (hb : W.heap.size ≤ w.heap.size) (hL : IsStrs w (slot a x) L) (hlen : M.length + L.length ≤ 1000000)
  (h : ∀ v' w', OwnTxt W w' v' (M ++ txts L) → w.grownBy w' (slot a s).ownBlock → K (a.put o.dst v') w') : o.wp Tryz.prog a w K Q := by
 obtain ⟨i0, hi, hz0, hz1, hz2⟩ := info_parts infoStr
 refine wp_append_strs_Due (.tmp s) (.tmp x) 38 ho W.heap.size 9 i0 (.string ⟨#[]⟩) 16 Tryz.underlying38 hi hz0 hz1 hz2 rfl (slot a s) (strsOf M) rfl hown (slot a x) L rfl hL ?_ ?_ hb ?_
 ·rw [strsOf_len]; unfold maxLen; omega
 ·rw [strsOf_len]; omega
 ·intro v' w' h1 h2
  refine h v' w' ?_ h2
  unfold OwnTxt; rw [strsOf_app, strsOf_txts]; exact h1
theorem OwnTxt.base {W V w : World} {v : Value} {M : List (List UInt8)} (h : OwnTxt W w v M) (hb : V.heap.size ≤ W.heap.size) : OwnTxt V w v M := ⟨h.1, h.2.imp id (fun ⟨g, cap, cur, h1, h2, h3⟩ => ⟨g, cap, cur, h1, Nat.le_trans hb h2, h3⟩)⟩
theorem raws_few {m a b x : Nat} {I : List It} (h : FewAt m a b x I) : (rawsT (cutN m b x) I).length ≤ 70000 ∧ ∀ t ∈ rawsT (cutN m b x) I, t.length ≤ 60000 := by
 refine ⟨by unfold rawsT; rw [List.length_map]; exact seqT_len h.rdy, fun t ht => ?_⟩
 obtain ⟨n, hn, rfl⟩ := List.mem_map.1 ht
 have := wrL_len (seqT_fit h.rdy n hn)
 unfold wrN; rw [if_pos (seqT_fit h.rdy n hn)]; omega
theorem FewAt.raws {m a b x : Nat} {I : List It} (h : FewAt m a b x I) {iv : Value} {V w : World} (hi : IsItems w iv I) (hV : V.heap.size ≤ w.heap.size) :
  Calls Tryz.prog 27 #[pV m a x, iv] w fun e w' => ∃ v', e = .returned v' ∧ OwnTxt V w' v' (rawsT (cutN m b x) I) ∧ Below w.heap.size w w' := by
 refine (rRaws_any m a b x h.fit iv I w hi h.rdy h.hs).mono ?_
 rintro e w' ⟨v', rfl, ho, hb⟩
 exact ⟨v', rfl, ho.base hV, hb⟩
theorem clash_txt {V : World} (T : List (List UInt8)) (hs : ∀ t ∈ T, t.length ≤ 60000) (hT : T.length ≤ 600000) (v : Value) (w : World) (h : OwnTxt V w v T) :
  Calls Tryz.prog 26 #[v] w fun e w' => e = .returned (.bool (clashB T)) ∧ Below w.heap.size w w' := by
 have := rClash_any v (strsOf T) w h.strs (fun y hy => by
  obtain ⟨t, ht, rfl⟩ := List.mem_map.1 hy
  rw [Lib.size_eq]; exact hs t ht) (by rw [strsOf_len]; exact hT)
 rwa [txts_strsOf] at this
noncomputable def itB (I J : List It) (k : Nat) : Bool := @decide (I.length = J.length ∧ I.take k = J.take k) (Classical.propDecidable _)
theorem itB_iff {I J : List It} {k : Nat} : itB I J k = true ↔ (I.length = J.length ∧ I.take k = J.take k) := ⟨fun h => @of_decide_eq_true _ (Classical.propDecidable _) h, fun h => @decide_eq_true _ (Classical.propDecidable _) h⟩
theorem itB_zero (I J : List It) : itB I J 0 = ((I.length : Int) == (J.length : Int)) := by
 rw [Bool.eq_iff_iff, itB_iff]
 simp
 omega
theorem itB_ne {I J : List It} {k : Nat} (h : itB I J k = false) : I ≠ J := fun e => by
 rw [itB_iff.2 ⟨by rw [e], by rw [e]⟩] at h; cases h
theorem itB_lt {I J : List It} {k : Nat} (h : itB I J k = true) (hk : k < I.length) : k < J.length := by have := (itB_iff.1 h).1; omega
theorem itB_eq {I J : List It} {k : Nat} (h : itB I J k = true) (hk : I.length ≤ k) : I = J := by
 obtain ⟨h1, h2⟩ := itB_iff.1 h
 rwa [List.take_of_length_le hk, List.take_of_length_le (by omega)] at h2
theorem itB_succ {I J : List It} {k : Nat} (h : itB I J k = true) (h1 : k < I.length) (h2 : k < J.length) : itB I J (k + 1) = eqI I[k] J[k] := by
 obtain ⟨g1, g2⟩ := itB_iff.1 h
 rw [Bool.eq_iff_iff, itB_iff, eqI_iff, List.take_succ_eq_append_getElem h1, List.take_succ_eq_append_getElem h2, g2]
 constructor
 ·rintro ⟨_, e⟩
  simpa using List.append_cancel_left e
 ·intro e; exact ⟨g1, by rw [e]⟩
theorem one_tree {m a b x : Nat} {I J : List It} (h : FewAt m a b x I) (k : FewAt m a b x J) (hc : ¬ Clash (rawsT (cutN m b x) I ++ rawsT (cutN m b x) J)) :
  (⟨(keyN (topT (cutN m b x) I)).toArray⟩ : ByteArray) = ⟨(keyN (topT (cutN m b x) J)).toArray⟩ ↔ I = J :=
 ⟨fun e => tree_one hc h.rdy k.rdy (fun n hn => List.mem_append_left _ (raw_mem hn)) (fun n hn => List.mem_append_right _ (raw_mem hn)) (bytes_list e), fun e => by rw [e]⟩
def dulU (w0 V : World) (m a x : Int) (iv jv : Value) (T1 T2 : List (List UInt8)) (cb : Bool) : Nat → Value → Value → World → Prop
 | 0 => fun v _ _ => v = pV m a x
 | 1 => fun v _ _ => v = iv
 | 2 => fun v _ w => OwnTxt V w v T1
 | 3 => fun v _ _ => v = pV m a x
 | 4 => fun v _ _ => v = jv
 | 5 => fun v _ w => OwnTxt V w v T2
 | 6 => fun v _ w => OwnTxt V w v (T1 ++ T2)
 | 7 => fun v _ _ => v = .bool cb
 | _ => fun _ _ _ => True
def dulN : List (List Nat) := [[], [], [0, 1], [], [], [3, 4], [2, 5], [6]]
def dulE : Nat → Option Tmp
 | _ => none
def dulB : List (Nat × Nat) := [(6, 2), (6, 5)]
theorem dul_T (w0 V : World) (m a x : Int) (iv jv : Value) (T1 T2 : List (List UInt8)) (cb : Bool) (ix kx : Nat) (v e : Value) (w w' : World) (hk : kx < 8) (hne : kx ≠ ix) (hbd : (ix, kx) ∉ dulB) (hU : (dulU w0 V m a x iv jv T1 T2 cb) kx v e w) (hT : (appT 6 (Below V.heap.size)) ix w w') : (dulU w0 V m a x iv jv T1 T2 cb) kx v e w' := by
 by_cases hi6 : ix = 6
 ·subst hi6
  have hR := appT_in hT
  rcases (show kx = 0 ∨ kx = 1 ∨ kx = 2 ∨ kx = 3 ∨ kx = 4 ∨ kx = 5 ∨ kx = 6 ∨ kx = 7 by omega) with rfl | rfl | rfl | rfl | rfl | rfl | rfl | rfl
  ·exact hU
  ·exact hU
  ·exact absurd (by decide) hbd
  ·exact hU
  ·exact hU
  ·exact absurd (by decide) hbd
  ·exact absurd rfl hne
  ·exact hU
 have hb : Below w.heap.size w w' := appT_out hi6 hT
 rcases (show kx = 0 ∨ kx = 1 ∨ kx = 2 ∨ kx = 3 ∨ kx = 4 ∨ kx = 5 ∨ kx = 6 ∨ kx = 7 by omega) with rfl | rfl | rfl | rfl | rfl | rfl | rfl | rfl
 ·exact hU
 ·exact hU
 ·exact OwnTxt.stays hU hb
 ·exact hU
 ·exact hU
 ·exact OwnTxt.stays hU hb
 ·exact OwnTxt.stays hU hb
 ·exact hU
set_option maxRecDepth 100000 in
set_option maxHeartbeats 40000000 in
theorem DagUnlike_w (mn av mx : Int) (iv : Value) (I : List It) (jv : Value) (J : List It) (w0 : World) (hi : IsItems w0 iv I) (hz : ∀ x ∈ I, x.c.size ≤ 281474976710656) (hj : IsItems w0 jv J) (hz2 : ∀ x ∈ J, x.c.size ≤ 281474976710656) (hT : Tabs w0) :
  Calls Tryz.prog 6 #[pV mn av mx, iv, jv] w0 fun e w' => e = .returned (.bool true) ∧ Below w0.heap.size w0 w' := by
 obtain ⟨V, hV⟩ : ∃ V, V = w0.alloc (.cells #[.int .i64 mn, .int .i64 av, .int .i64 mx] 23) := ⟨_, rfl⟩
 have HH : Hid (OneP w0 mn av mx V) := Lib.hid (by rw [hV]; exact oneP_new w0 mn av mx hT)
 have HVS : Hid (w0.heap.size < V.heap.size ∧ V.heap.size = w0.heap.size + 1) := Lib.hid (by rw [hV]; simp)
 have HV := Lib.hid hV; have HT0 := Lib.hid hT
 have HI := Lib.hid hi; have HJ := Lib.hid hj
 have AW : Hid (∀ W, OneP w0 mn av mx W → _) := Lib.hid fun W h => awake_any W h.2.2
 have FW : Hid (∀ W, OneP w0 mn av mx W → _) := Lib.hid fun W h => fewT_any mn av mx iv I W (HI.out.stays h.2.1) hz
 have FX : Hid (∀ W, OneP w0 mn av mx W → _) := Lib.hid fun W h => fewT_any mn av mx jv J W (HJ.out.stays h.2.1) hz2
 obtain ⟨c0, c1, c2⟩ := HH.out.cells
 clear hV hT hi hz hj hz2
 rcases hf : fewTB mn av mx I with _ | _
 ·rw [hf] at FW
  go_enter Tryz.func6, Tryz.ntmps6
  go_wp2_with fail
  rw [← HV.out]
  go_wp2_with fail
  with_reducible refine (FW.out _ HH.out).mono ?_
  rintro e w1 ⟨rfl, hb⟩
  replace HH := Lib.hid (HH.out.on hb)
  clear hb c0 c1 c2
  obtain ⟨c0, c1, c2⟩ := HH.out.cells
  go_wp2_with fail
  with_reducible refine (AW.out _ HH.out).mono ?_
  rintro e w9 ⟨rfl, hb⟩
  go_wp2
  go_ret
  exact ⟨rfl, below_step HH.out.2.1 hb⟩
 ·rw [hf] at FW
  rcases hg : fewTB mn av mx J with _ | _
  ·rw [hg] at FX
   go_enter Tryz.func6, Tryz.ntmps6
   go_wp2_with fail
   rw [← HV.out]
   go_wp2_with fail
   with_reducible refine (FW.out _ HH.out).mono ?_
   rintro e w1 ⟨rfl, hb⟩
   replace HH := Lib.hid (HH.out.on hb)
   clear hb c0 c1 c2
   obtain ⟨c0, c1, c2⟩ := HH.out.cells
   go_wp2_with fail
   with_reducible refine (FX.out _ HH.out).mono ?_
   rintro e w1 ⟨rfl, hb⟩
   replace HH := Lib.hid (HH.out.on hb)
   clear hb c0 c1 c2
   obtain ⟨c0, c1, c2⟩ := HH.out.cells
   go_wp2_with fail
   with_reducible refine (AW.out _ HH.out).mono ?_
   rintro e w9 ⟨rfl, hb⟩
   go_wp2
   go_ret
   exact ⟨rfl, below_step HH.out.2.1 hb⟩
  ·rw [hg] at FX
   obtain ⟨m, a, b, x, rfl, rfl, rfl, hF⟩ := few_at hf
   obtain ⟨m2, a2, b2, x2, h1, h2, h3, hK⟩ := few_at hg
   obtain rfl : m = m2 := by omega
   obtain rfl : a = a2 := by omega
   obtain rfl : x = x2 := by omega
   obtain rfl : b = b2 := fitAt_one hF.fit hK.fit
   have HKK0 := one_tree hF hK
   have hr1 := raws_few hF
   have hr2 := raws_few hK
   have CC0 := fun (v : Value) (w : World) => clash_txt (V := V) (rawsT (cutN m b x) I ++ rawsT (cutN m b x) J) (fun t ht => (List.mem_append.1 ht).elim (hr1.2 t) (hr2.2 t)) (by rw [List.length_append]; omega) v w
   obtain ⟨K1, hK1⟩ : ∃ K : ByteArray, K = ⟨(keyN (topT (cutN m b x) I)).toArray⟩ := ⟨_, rfl⟩
   obtain ⟨K2, hK2⟩ : ∃ K : ByteArray, K = ⟨(keyN (topT (cutN m b x) J)).toArray⟩ := ⟨_, rfl⟩
   rw [← hK1, ← hK2] at HKK0
   have B1 : Hid (∀ W, OneP w0 m a x W → Calls Tryz.prog 11 #[pV m a x, iv] W fun e w' => ∃ v', e = .returned (.tuple #[.string K1, v']) ∧ Below W.heap.size W w') := Lib.hid fun W h => (hF.pBuild (HI.out.stays h.2.1) h.2.2).mono (by rintro e w' ⟨v', rfl, _, hb⟩; exact ⟨v', by rw [hK1], hb⟩)
   have B2 : Hid (∀ W, OneP w0 m a x W → Calls Tryz.prog 11 #[pV m a x, jv] W fun e w' => ∃ v', e = .returned (.tuple #[.string K2, v']) ∧ Below W.heap.size W w') := Lib.hid fun W h => (hK.pBuild (HJ.out.stays h.2.1) h.2.2).mono (by rintro e w' ⟨v', rfl, _, hb⟩; exact ⟨v', by rw [hK2], hb⟩)
   have CR1 : Hid (∀ W, TwoP w0 V m a x W → _) := Lib.hid fun W h => hF.raws (V := V) (HI.out.stays h.1.2.1) h.2.2.1
   have CR2 : Hid (∀ W, TwoP w0 V m a x W → _) := Lib.hid fun W h => hK.raws (V := V) (HJ.out.stays h.1.2.1) h.2.2.1
   obtain ⟨T1, hT1⟩ : ∃ T, T = rawsT (cutN m b x) I := ⟨_, rfl⟩
   obtain ⟨T2, hT2⟩ : ∃ T, T = rawsT (cutN m b x) J := ⟨_, rfl⟩
   rw [← hT1] at CR1 CC0 HKK0 hr1
   rw [← hT2] at CR2 CC0 HKK0 hr2
   have HLEN : Hid (T1.length + (strsOf T2).length ≤ 1000000) := Lib.hid (by rw [strsOf_len]; omega)
   obtain ⟨cb, hcb⟩ : ∃ cb, cb = clashB (T1 ++ T2) := ⟨_, rfl⟩
   rw [← hcb] at CC0
   have CC := Lib.hid CC0
   have HCB := Lib.hid hcb
   have HKK : Hid (false = clashB (T1 ++ T2) → (K1 = K2 ↔ I = J)) := Lib.hid (fun e => HKK0 (fun hc => by rw [clashB_yes hc] at e; cases e))
   clear hf hg hF hK h1 h2 h3 hr1 hr2 CC0 HKK0 hK1 hK2 hT1 hT2 hcb
   go_enter Tryz.func6, Tryz.ntmps6
   go_wp2_with fail
   rw [← HV.out]
   go_wp2_with fail
   with_reducible refine (FW.out _ HH.out).mono ?_
   rintro e w1 ⟨rfl, hb⟩
   replace HH := Lib.hid (HH.out.on hb)
   clear hb c0 c1 c2
   obtain ⟨c0, c1, c2⟩ := HH.out.cells
   go_wp2_with fail
   with_reducible refine (FX.out _ HH.out).mono ?_
   rintro e w1 ⟨rfl, hb⟩
   replace HH := Lib.hid (HH.out.on hb)
   clear hb c0 c1 c2
   obtain ⟨c0, c1, c2⟩ := HH.out.cells
   go_wp2_with fail
   with_reducible refine (B1.out _ HH.out).mono ?_
   rintro e w4 ⟨v4, rfl, hb⟩
   replace HH := Lib.hid (HH.out.on hb)
   clear hb c0 c1 c2
   obtain ⟨c0, c1, c2⟩ := HH.out.cells
   go_wp2_with fail
   with_reducible refine (B2.out _ HH.out).mono ?_
   rintro e w6 ⟨v6, rfl, hb⟩
   replace HH := Lib.hid (HH.out.on hb)
   clear hb c0 c1 c2
   go_wp2_with fail
   have HG0 : Hid (TwoP w0 V m a x w6) := Lib.hid ⟨HH.out, HVS.out.1, by have := HH.out.1.lt; have := HVS.out.2; omega, HT0.out⟩
   refine wp_region_wordsG (by kernel_rfl) (by kernel_rfl) (appT 6 (Below V.heap.size)) (TwoP w0 V m a x) dulE (dulU w0 V m a x iv jv T1 T2 cb) 8 dulN [7] (by kernel_rfl) (by kernel_rfl) (by kernel_rfl)
    dulB (by kernel_rfl) (fun ix kx v e w w' hi hk hne hb hU hT => dul_T _ _ _ _ _ _ _ _ _ _  ix kx v e w w' hk hne hb hU hT) (by decide) (HG0.out.on ((Below.refl _ _).drew)) (fun k hk hge => absurd hk (Nat.not_lt.2 (show 8 ≤ k from hge)))
    [36, 37, 38, 39, 40, 41, 42, 43] (by kernel_rfl) (forall_ops ?steps) ?behind
   case steps =>
    refine ⟨?_, ?_, ?_, ?_, ?_, ?_, ?_, ?_, trivial⟩
    ·refine stepG_of rfl ?_
     exact stepR_value (t := 36) (pV m a x) rfl (fun _ => appT_other (by decide) (Below.refl _ _)) (fun ac w hG hN hO => by
      have e3 : slot ac 3 = .pointer (some ⟨w0.heap.size, 0, none⟩) := hO 3 (by kernel_rfl)
      obtain ⟨c0, c1, c2⟩ := hG.1.cells
      have f3 := slot_at e3
      unfold execOp; go_simp) (fun ac w hG hN => rfl)
    ·refine stepG_of rfl ?_
     exact stepR_value (t := 37) (iv) rfl (fun _ => appT_other (by decide) (Below.refl _ _)) (fun ac w hG hN hO => by
      have e1 : slot ac 1 = iv := hO 1 (by kernel_rfl)
      exact run_move_slot (.inl rfl) e1) (fun ac w hG hN => rfl)
    ·refine stepG_of rfl ?_
     intro ac w hG hN hO
     have e36 : slot ac 36 = pV m a x := hN 0 (by decide)
     have e37 : slot ac 37 = iv := hN 1 (by decide)
     refine wp_callx 27 _ _ rfl (enters_of Tryz.func27 (by kernel_rfl) rfl) #[pV m a x, iv] (by simp [eval_slot, e36, e37]) (CR1.out w hG) ?_
     rintro v w'' ⟨hv, hb⟩
     exact ⟨v, rfl, (appT_other (by decide) hb), hG.on hb, hv⟩
    ·refine stepG_of rfl ?_
     exact stepR_value (t := 39) (pV m a x) rfl (fun _ => appT_other (by decide) (Below.refl _ _)) (fun ac w hG hN hO => by
      have e3 : slot ac 3 = .pointer (some ⟨w0.heap.size, 0, none⟩) := hO 3 (by kernel_rfl)
      obtain ⟨c0, c1, c2⟩ := hG.1.cells
      have f3 := slot_at e3
      unfold execOp; go_simp) (fun ac w hG hN => rfl)
    ·refine stepG_of rfl ?_
     exact stepR_value (t := 40) (jv) rfl (fun _ => appT_other (by decide) (Below.refl _ _)) (fun ac w hG hN hO => by
      have e2 : slot ac 2 = jv := hO 2 (by kernel_rfl)
      exact run_move_slot (.inl rfl) e2) (fun ac w hG hN => rfl)
    ·refine stepG_of rfl ?_
     intro ac w hG hN hO
     have e39 : slot ac 39 = pV m a x := hN 3 (by decide)
     have e40 : slot ac 40 = jv := hN 4 (by decide)
     refine wp_callx 27 _ _ rfl (enters_of Tryz.func27 (by kernel_rfl) rfl) #[pV m a x, jv] (by simp [eval_slot, e39, e40]) (CR2.out w hG) ?_
     rintro v w'' ⟨hv, hb⟩
     exact ⟨v, rfl, (appT_other (by decide) hb), hG.on hb, hv⟩
    ·refine stepG_of rfl ?_
     intro ac w hG hN hO
     have e1 : OwnTxt V w (slot ac 38) T1 := hN 2 (by decide)
     have e2 : OwnTxt V w (slot ac 41) T2 := hN 5 (by decide)
     refine wp_append_txts 38 41 rfl e1 hG.2.2.1 e2.strs HLEN.out ?_
     intro v' w' hown' hg
     rw [txts_strsOf] at hown'
     have hbw : Below V.heap.size w w' := (Below.refl _ _).grown hg hG.2.2.1 (fun j hj => (World.ownsRow.lt e1 j hj).1)
     exact ⟨v', rfl, appT_at hbw, hG.grow hbw, hown'⟩
    ·refine stepG_of rfl ?_
     intro ac w hG hN hO
     have e42 : OwnTxt V w (slot ac 42) (T1 ++ T2) := hN 6 (by decide)
     refine wp_callx 26 _ _ rfl (enters_of Tryz.func26 (by kernel_rfl) rfl) #[slot ac 42] (by simp [eval_slot]) (calls_valN (CC.out _ w e42)) ?_
     rintro v w'' ⟨hv, hb⟩
     exact ⟨v, rfl, (appT_other (by decide) hb), hG.on hb, hv⟩
   case behind =>
    intro ac w5 hG hV hS ha
    have h7 : slot ac 43 = .bool cb := hV 7 (by decide) (by decide)
    generalize slot ac = sl at ha h7
    subst ha
    simp only [patchL, List.contains_cons, List.contains_nil, Nat.reduceBEq, Bool.or_false, Bool.or_true, if_true, Bool.false_eq_true, if_false, Nat.reduceAdd]
    generalize sl 36 = s36
    generalize sl 37 = s37
    generalize sl 38 = s38
    generalize sl 39 = s39
    generalize sl 40 = s40
    generalize sl 41 = s41
    generalize sl 42 = s42
    generalize sl 43 = s43 at h7 ⊢
    subst h7
    clear hV hS
    have HG := Lib.hid hG
    clear hG
    rcases cb with _ | _
    ·have hKL := HKK.out HCB.out
     obtain ⟨hm1, a1, cap1, rfl, _, hc1⟩ := HI.out.stays HG.out.1.2.1
     obtain ⟨hm2, a2, cap2, rfl, _, hc2⟩ := HJ.out.stays HG.out.1.2.1
     have hmm1 : I.length ≤ 9223372036854775807 := by unfold maxLen at hm1; omega
     have hmm2 : J.length ≤ 9223372036854775807 := by unfold maxLen at hm2; omega
     have H1 := Lib.hid hc1; have H2 := Lib.hid hc2
     clear hc1 hm1 hc2 hm2
     obtain ⟨s0, hs0⟩ : ∃ s0, ((I.length : Int) == (J.length : Int)) = s0 := ⟨_, rfl⟩
     have HS0 : Hid (s0 = itB I J 0) := Lib.hid (by rw [← hs0]; exact (itB_zero I J).symm)
     have hne' : ∀ (x y : It) (w : World), Sem.run Tryz.prog (binOp .eql 51 (itV x) (itV y)) w = .ok (.bool (eqI x y)) w := fun x y w => eqItem x y w
     have hgd' : ∀ (op : BinOp) (a b : Operand) (x y : It) (w : World), Sem.run Tryz.prog (eqGuard op 51 a b (itV x) (itV y)) w = .ok () w := fun op a b x y w => guardItem op a b x y w
     have HKL := Lib.hid hKL
     clear hKL
     go_wp2
     clear hs0
     go_loopw [11, 12] (fun s i wr => ∃ k m : Nat, k ≤ I.length ∧ i = .int .i64 k ∧ s = .bool (itB I J k) ∧ wr = w5.drewN m) (fun _ i _ => I.length - (intOf i).toNat)
     case atStart => exact ⟨0, 0, Nat.zero_le _, rfl, by rw [HS0.out], rfl⟩
     case round =>
      obtain ⟨k, m2, hk, rfl, rfl, rfl⟩ := hrel
      have HG9 := Lib.hid (HG.out.1.on (below_drewN (Below.refl _ _) m2))
      rcases hsb : itB I J k with _ | _
      ·have hne := itB_ne hsb
       have hkk : (K1.toList == K2.toList) = false := beq_false (fun e => hne (HKL.out.1 e))
       clear hsb hne
       go_wp2_with fail
       with_reducible refine (AW.out _ HG9.out).mono ?_
       rintro e w9 ⟨rfl, hb⟩
       go_wp2
       go_ret
       exact ⟨rfl, below_step HG9.out.2.1 hb⟩
      ·by_cases hlt : k < I.length
       ·have hlt2 : k < J.length := itB_lt hsb hlt
        obtain ⟨b1, o1, rfl, _, g1⟩ := H1.out (by omega)
        obtain ⟨b2, o2, rfl, _, g2⟩ := H2.out (by omega)
        obtain ⟨p0, p1, p2, p3⟩ := g1 k hlt
        obtain ⟨q0, q1, q2, q3⟩ := g2 k hlt2
        clear g1 g2
        have hbk : decide ((k : Int) < (I.length : Int)) = true := by simpa using (show (k : Int) < I.length by omega)
        have HST := Lib.hid (itB_succ hsb hlt hlt2)
        obtain ⟨y1, hy1⟩ : ∃ y, y = I[k] := ⟨_, rfl⟩
        obtain ⟨y2, hy2⟩ : ∃ y, y = J[k] := ⟨_, rfl⟩
        rw [← hy1] at p0 p1 p2 p3 HST
        rw [← hy2] at q0 q1 q2 q3 HST
        obtain ⟨s1, hs1⟩ : ∃ s1, eqI y1 y2 = s1 := ⟨_, rfl⟩
        have HS1 : Hid (s1 = itB I J (k + 1)) := Lib.hid (by rw [← hs1]; exact HST.out.symm)
        clear hy1 hy2 hsb HST
        go_wp2_with fail
        go_quiet (fail)
        go_wp2
        go_roundw
        case rel => exact ⟨k + 1, m2 + nq, by omega, by go_num, by rw [HS1.out], by simp [World.drewN]⟩
        case measure => simp [intOf]; omega
       ·have hge : decide ((k : Int) < (I.length : Int)) = false := by simp; omega
        have heq := itB_eq hsb (by omega)
        have hkk : (K1.toList == K2.toList) = true := beq_true (HKL.out.2 heq)
        clear hsb heq
        go_wp2_with fail
        with_reducible refine (AW.out _ HG9.out).mono ?_
        rintro e w9 ⟨rfl, hb⟩
        go_wp2
        go_ret
        exact ⟨rfl, below_step HG9.out.2.1 hb⟩
    ·have HG9 := Lib.hid HG.out.1
     go_wp2_with fail
     with_reducible refine (AW.out _ HG9.out).mono ?_
     rintro e w9 ⟨rfl, hb⟩
     go_wp2
     go_ret
     exact ⟨rfl, below_step HG9.out.2.1 hb⟩
end Go.Proofs.YtlccihidedfemaaGreatDoor

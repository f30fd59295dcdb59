/-
  Contracts over this translation: Kids, node's and the document's.
-/
import Derived.Test.YtohicccbaenegaaGreatDoorYNdi
import Derived.Test.YtohicccbaenegaaGreatDoorYKeo
set_option linter.unusedVariables false
namespace Go.Proofs.YtohicccbaenegaaGreatDoor
open Go.RowKit
attribute [local go_sem] Oper.semAt_some

def keysP (L : List Pt) : List Txt := L.map (·.k.data.toList)
def keysE (L : List En) : List Txt := L.map (·.k.data.toList)
def kidsN (n : Nd) : List Txt := keysP n.ps ++ keysE n.es
theorem keysP_step {L : List Pt} {k : Nat} (hk : k < L.length) : keysP (L.take (k + 1)) = keysP (L.take k) ++ [L[k].k.data.toList] := by
  unfold keysP; rw [List.take_succ_eq_append_getElem hk, List.map_append]; rfl
theorem keysE_step {L : List En} {k : Nat} (hk : k < L.length) : keysE (L.take (k + 1)) = keysE (L.take k) ++ [L[k].k.data.toList] := by
  unfold keysE; rw [List.take_succ_eq_append_getElem hk, List.map_append]; rfl
theorem wpList_append_txt2 {ops : Array Oper} {rest : List Oper} {o : Oper} {a : Act} {W w0 : World} {z : Nat} {Q : Exit → Act → World → Prop} (hgd : o.guard = none) (s x : Operand)
    (ho : o.op = .call { callee := .builtin .append, args := #[s, x], argTypes := #[31, 31] })
    {v : Value} {M : List (List UInt8)} {y : ByteArray} (hown : OwnTxt W w0 v M) (hb : Below W.heap.size W w0) (hz : z = w0.heap.size) (hs : a.eval s = v)
    (hx : a.eval x = .slice (some ⟨z, 0, none⟩) 1 1) (hlen : M.length ≤ 1000000)
    (h : ∀ v' w', OwnTxt W w' v' (M ++ [y.data.toList]) → Below W.heap.size W w' → wpList Tryz.prog ops Q rest (a.put o.dst v') w') :
    wpList Tryz.prog ops Q (o :: rest) a (w0.alloc (.cells #[.string y] 9)) := by
  subst hz
  exact wpList_append_txt hgd s x ho hown hb hs hx hlen h
theorem keysP_len (L : List Pt) : (keysP L).length = L.length := List.length_map ..
theorem keysE_len (L : List En) : (keysE L).length = L.length := List.length_map ..
set_option maxRecDepth 100000 in
set_option maxHeartbeats 2000000 in
theorem pKids_any (n : Nd) (pv ev : Value) (w : World) (hp : IsParts w pv n.ps) (he : IsEntries w ev n.es) (hl : n.ps.length + n.es.length ≤ 1000) :
    Calls Tryz.prog 18 #[ndV n pv ev] w (RetStrs w (ofL (kidsN n))) := by
  have HP := Lib.hid hp; have HE := Lib.hid he
  obtain ⟨_, a1, cap1, hv1, _, _⟩ := hp
  obtain ⟨_, a2, cap2, hv2, _, _⟩ := he
  subst hv1 hv2
  have hb0 := (Below.refl w.heap.size w).alloc (Nat.le_refl _) (.cells #[.int .i64 n.kd, .string n.d, .slice a1 n.ps.length cap1, .slice a2 n.es.length cap2] 25)
  obtain ⟨V, hV⟩ : ∃ V, V = w.alloc (.cells #[.int .i64 n.kd, .string n.d, .slice a1 n.ps.length cap1, .slice a2 n.es.length cap2] 25) := ⟨_, rfl⟩
  rw [← hV] at hb0
  have HX : Hid (NdBox V w.heap.size n (.slice a1 n.ps.length cap1) (.slice a2 n.es.length cap2)) := Lib.hid (by rw [hV]; exact ndBox_new w n _ _ _)
  have HBV := Lib.hid hb0
  have HB0 := Lib.hid (Below.refl V.heap.size V)
  have HO0 : Hid (OwnTxt V V (.slice none 0 0) (keysP (n.ps.take 0))) := Lib.hid (ownTxt_nil V)
  replace HP := Lib.hid (HP.out.stays hb0); replace HE := Lib.hid (HE.out.stays hb0)
  have HV := Lib.hid hV
  obtain ⟨x0, x1, x2, x3⟩ := HX.out.cells
  clear hb0 hV
  go_enter Tryz.func18, Tryz.ntmps18
  go_wp2_with fail
  rw [← HV.out]
  go_wp2
  go_loopw [3, 11] (fun v i wr => ∃ k : Nat, k ≤ n.ps.length ∧ i = .int .i64 k ∧ OwnTxt V wr v (keysP (n.ps.take k)) ∧ Below V.heap.size V wr) (fun _ i _ => n.ps.length - (intOf i).toNat)
  case atStart => exact ⟨0, Nat.zero_le _, rfl, HO0.out, HB0.out⟩
  case round =>
    clear x0 x1 x2 x3
    obtain ⟨k, hk, rfl, hO, hB⟩ := hrel
    have HO := Lib.hid hO; have HB := Lib.hid hB
    obtain ⟨x0, x1, x2, x3⟩ := (HX.out.stays hB).cells
    have hsz := hB.size
    by_cases hlt : k < n.ps.length
    · obtain ⟨_, _, _, e, _, hc⟩ := HP.out.stays hB
      cases e
      obtain ⟨b, off, rfl, hbl, g⟩ := hc (by omega)
      obtain ⟨u0, u1⟩ := g k hlt
      clear g hc hO hB
      have hbk : decide ((k : Int) < (n.ps.length : Int)) = true := by simpa using (show (k : Int) < n.ps.length by omega)
      have HST := Lib.hid (keysP_step hlt)
      obtain ⟨x, hx⟩ : ∃ x, x = n.ps[k] := ⟨_, rfl⟩
      rw [← hx] at u0 u1 HST
      clear hx
      have hol : (keysP (n.ps.take k)).length ≤ 1000000 := by rw [keysP_len, List.length_take]; omega
      have hba := (Below.refl wr.heap.size wr).alloc (Nat.le_refl _) (.cells #[.string x.k, .int .i64 x.n] 40)
      have HZ2 : Hid (wr.heap.size + 1 = (wr.alloc (.cells #[.string x.k, .int .i64 x.n] 40)).heap.size) := Lib.hid (by simp)
      have HO2 := Lib.hid (HO.out.stays hba)
      have HB2 := Lib.hid (below_step HB.out hba)
      clear hba
      go_wp2_with (at_builtin; refine wpList_append_txt2 rfl _ _ rfl HO2.out HB2.out HZ2.out rfl rfl hol ?_)
      intro v' w6 hown6 hb6
      have HO6 := Lib.hid hown6; have HB6 := Lib.hid hb6
      clear hown6 hb6 x0 x1 x2 x3
      go_wp2
      go_roundw
      case rel => exact ⟨k + 1, by omega, by go_num, by rw [HST.out]; first | exact HO6.out | (rw [← List.append_assoc]; exact HO6.out) | (rw [List.append_assoc]; exact HO6.out), HB6.out⟩
      case measure => simp [intOf]; omega
    · have hke : n.ps.take k = n.ps := List.take_of_length_le (by omega)
      rw [hke] at HO
      have HO1 : Hid (OwnTxt V wr _ (keysP n.ps ++ keysE (n.es.take 0))) := Lib.hid (by
        have e : keysP n.ps ++ keysE (n.es.take 0) = keysP n.ps := by rw [List.take_zero]; exact List.append_nil _
        rw [e]; exact HO.out)
      clear hO hB hke HO
      go_wp2
      go_loopw [3, 24] (fun v i wr => ∃ k : Nat, k ≤ n.es.length ∧ i = .int .i64 k ∧ OwnTxt V wr v (keysP n.ps ++ keysE (n.es.take k)) ∧ Below V.heap.size V wr) (fun _ i _ => n.es.length - (intOf i).toNat)
      case atStart => exact ⟨0, Nat.zero_le _, rfl, HO1.out, HB.out⟩
      case round =>
        clear x0 x1 x2 x3
        obtain ⟨k, hk, rfl, hO, hB⟩ := hrel
        have HO := Lib.hid hO; have HB := Lib.hid hB
        obtain ⟨x0, x1, x2, x3⟩ := (HX.out.stays hB).cells
        have hsz := hB.size
        by_cases hlt : k < n.es.length
        · obtain ⟨_, _, _, e, _, hc⟩ := HE.out.stays hB
          cases e
          obtain ⟨b, off, rfl, hbl, g⟩ := hc (by omega)
          obtain ⟨u0, u1, u2, u3⟩ := g k hlt
          clear g hc hO hB
          have hbk : decide ((k : Int) < (n.es.length : Int)) = true := by simpa using (show (k : Int) < n.es.length by omega)
          have HST := Lib.hid (keysE_step hlt)
          obtain ⟨x, hx⟩ : ∃ x, x = n.es[k] := ⟨_, rfl⟩
          rw [← hx] at u0 u1 u2 u3 HST
          clear hx
          have hol : (keysP n.ps ++ keysE (n.es.take k)).length ≤ 1000000 := by rw [List.length_append, keysP_len, keysE_len, List.length_take]; omega
          have hba := (Below.refl wr.heap.size wr).alloc (Nat.le_refl _) (.cells #[.string x.m, .int .i64 x.kd, .bool x.x, .string x.k] 43)
          have HZ2 : Hid (wr.heap.size + 1 = (wr.alloc (.cells #[.string x.m, .int .i64 x.kd, .bool x.x, .string x.k] 43)).heap.size) := Lib.hid (by simp)
          have HO2 := Lib.hid (HO.out.stays hba)
          have HB2 := Lib.hid (below_step HB.out hba)
          clear hba
          go_wp2_with (at_builtin; refine wpList_append_txt2 rfl _ _ rfl HO2.out HB2.out HZ2.out rfl rfl hol ?_)
          intro v' w6 hown6 hb6
          have HO6 := Lib.hid hown6; have HB6 := Lib.hid hb6
          clear hown6 hb6 x0 x1 x2 x3
          go_wp2
          go_roundw
          case rel => exact ⟨k + 1, by omega, by go_num, by rw [HST.out]; first | exact HO6.out | (rw [← List.append_assoc]; exact HO6.out) | (rw [List.append_assoc]; exact HO6.out), HB6.out⟩
          case measure => simp [intOf]; omega
        · have hke : n.es.take k = n.es := List.take_of_length_le (by omega)
          rw [hke] at HO
          have hkl : (kidsN n).length ≤ 1000 := by unfold kidsN; rw [List.length_append, keysP_len, keysE_len]; exact hl
          have OF := Lib.hid (Of_any _ _ _ HO.out.strs (by rw [strsOf_len]; show (kidsN n).length ≤ _; omega))
          rw [txts_strsOf] at OF
          clear hO hke
          go_wp2_with fail
          refine OF.out.mono ?_
          rintro e w8 ⟨v8, rfl, hs8, hb8⟩
          have HS := Lib.hid hs8; have HB8 := Lib.hid (below_step HBV.out (below_step hB hb8))
          obtain ⟨_, a8, c8, hv8, _, _⟩ := hs8
          subst hv8
          clear hb8 hB
          go_wp2
          go_ret
          exact ⟨_, rfl, HS.out, HB8.out⟩
set_option maxRecDepth 100000 in
set_option maxHeartbeats 2000000 in
theorem rKids_any (n : Nd) (pv ev : Value) (w : World) (hp : IsParts w pv n.ps) (he : IsEntries w ev n.es) (hl : n.ps.length + n.es.length ≤ 1000) :
    Calls Tryz.prog 19 #[ndV n pv ev] w (RetStrs w (ofL (kidsN n))) := by
  have HP := Lib.hid hp; have HE := Lib.hid he
  obtain ⟨_, a1, cap1, hv1, _, _⟩ := hp
  obtain ⟨_, a2, cap2, hv2, _, _⟩ := he
  subst hv1 hv2
  have hb0 := (Below.refl w.heap.size w).alloc (Nat.le_refl _) (.cells #[.int .i64 n.kd, .string n.d, .slice a1 n.ps.length cap1, .slice a2 n.es.length cap2] 25)
  obtain ⟨V, hV⟩ : ∃ V, V = w.alloc (.cells #[.int .i64 n.kd, .string n.d, .slice a1 n.ps.length cap1, .slice a2 n.es.length cap2] 25) := ⟨_, rfl⟩
  rw [← hV] at hb0
  have HX : Hid (NdBox V w.heap.size n (.slice a1 n.ps.length cap1) (.slice a2 n.es.length cap2)) := Lib.hid (by rw [hV]; exact ndBox_new w n _ _ _)
  have HBV := Lib.hid hb0
  have HB0 := Lib.hid (Below.refl V.heap.size V)
  have HO0 : Hid (OwnTxt V V (.slice none 0 0) (keysP (n.ps.take 0))) := Lib.hid (ownTxt_nil V)
  replace HP := Lib.hid (HP.out.stays hb0); replace HE := Lib.hid (HE.out.stays hb0)
  have HV := Lib.hid hV
  obtain ⟨x0, x1, x2, x3⟩ := HX.out.cells
  clear hb0 hV
  go_enter Tryz.func19, Tryz.ntmps19
  go_wp2_with fail
  rw [← HV.out]
  go_wp2
  go_loopw [3, 4] (fun v i wr => ∃ k : Nat, k ≤ n.ps.length ∧ i = .int .i64 k ∧ OwnTxt V wr v (keysP (n.ps.take k)) ∧ Below V.heap.size V wr) (fun _ i _ => n.ps.length - (intOf i).toNat)
  case atStart => exact ⟨0, Nat.zero_le _, rfl, HO0.out, HB0.out⟩
  case round =>
    clear x0 x1 x2 x3
    obtain ⟨k, hk, rfl, hO, hB⟩ := hrel
    have HO := Lib.hid hO; have HB := Lib.hid hB
    obtain ⟨x0, x1, x2, x3⟩ := (HX.out.stays hB).cells
    have hsz := hB.size
    by_cases hlt : k < n.ps.length
    · obtain ⟨_, _, _, e, _, hc⟩ := HP.out.stays hB
      cases e
      obtain ⟨b, off, rfl, hbl, g⟩ := hc (by omega)
      obtain ⟨u0, u1⟩ := g k hlt
      clear g hc hO hB
      have hbk : decide ((k : Int) < (n.ps.length : Int)) = true := by simpa using (show (k : Int) < n.ps.length by omega)
      have HST := Lib.hid (keysP_step hlt)
      obtain ⟨x, hx⟩ : ∃ x, x = n.ps[k] := ⟨_, rfl⟩
      rw [← hx] at u0 u1 HST
      clear hx
      have hol : (keysP (n.ps.take k)).length ≤ 1000000 := by rw [keysP_len, List.length_take]; omega
      have HO2 := HO
      have HB2 := HB
      have HZ2 : Hid (wr.heap.size = wr.heap.size) := Lib.hid rfl
      have hba := Below.refl wr.heap.size wr
      clear hba
      go_wp2_with (at_builtin; refine wpList_append_txt2 rfl _ _ rfl HO2.out HB2.out HZ2.out rfl rfl hol ?_)
      intro v' w6 hown6 hb6
      have HO6 := Lib.hid hown6; have HB6 := Lib.hid hb6
      clear hown6 hb6 x0 x1 x2 x3
      go_wp2
      go_roundw
      case rel => exact ⟨k + 1, by omega, by go_num, by rw [HST.out]; first | exact HO6.out | (rw [← List.append_assoc]; exact HO6.out) | (rw [List.append_assoc]; exact HO6.out), HB6.out⟩
      case measure => simp [intOf]; omega
    · have hke : n.ps.take k = n.ps := List.take_of_length_le (by omega)
      rw [hke] at HO
      have HO1 : Hid (OwnTxt V wr _ (keysP n.ps ++ keysE (n.es.take 0))) := Lib.hid (by
        have e : keysP n.ps ++ keysE (n.es.take 0) = keysP n.ps := by rw [List.take_zero]; exact List.append_nil _
        rw [e]; exact HO.out)
      clear hO hB hke HO
      go_wp2
      go_loopw [3, 5] (fun v i wr => ∃ k : Nat, k ≤ n.es.length ∧ i = .int .i64 k ∧ OwnTxt V wr v (keysP n.ps ++ keysE (n.es.take k)) ∧ Below V.heap.size V wr) (fun _ i _ => n.es.length - (intOf i).toNat)
      case atStart => exact ⟨0, Nat.zero_le _, rfl, HO1.out, HB.out⟩
      case round =>
        clear x0 x1 x2 x3
        obtain ⟨k, hk, rfl, hO, hB⟩ := hrel
        have HO := Lib.hid hO; have HB := Lib.hid hB
        obtain ⟨x0, x1, x2, x3⟩ := (HX.out.stays hB).cells
        have hsz := hB.size
        by_cases hlt : k < n.es.length
        · obtain ⟨_, _, _, e, _, hc⟩ := HE.out.stays hB
          cases e
          obtain ⟨b, off, rfl, hbl, g⟩ := hc (by omega)
          obtain ⟨u0, u1, u2, u3⟩ := g k hlt
          clear g hc hO hB
          have hbk : decide ((k : Int) < (n.es.length : Int)) = true := by simpa using (show (k : Int) < n.es.length by omega)
          have HST := Lib.hid (keysE_step hlt)
          obtain ⟨x, hx⟩ : ∃ x, x = n.es[k] := ⟨_, rfl⟩
          rw [← hx] at u0 u1 u2 u3 HST
          clear hx
          have hol : (keysP n.ps ++ keysE (n.es.take k)).length ≤ 1000000 := by rw [List.length_append, keysP_len, keysE_len, List.length_take]; omega
          have HO2 := HO
          have HB2 := HB
          have HZ2 : Hid (wr.heap.size = wr.heap.size) := Lib.hid rfl
          have hba := Below.refl wr.heap.size wr
          clear hba
          go_wp2_with (at_builtin; refine wpList_append_txt2 rfl _ _ rfl HO2.out HB2.out HZ2.out rfl rfl hol ?_)
          intro v' w6 hown6 hb6
          have HO6 := Lib.hid hown6; have HB6 := Lib.hid hb6
          clear hown6 hb6 x0 x1 x2 x3
          go_wp2
          go_roundw
          case rel => exact ⟨k + 1, by omega, by go_num, by rw [HST.out]; first | exact HO6.out | (rw [← List.append_assoc]; exact HO6.out) | (rw [List.append_assoc]; exact HO6.out), HB6.out⟩
          case measure => simp [intOf]; omega
        · have hke : n.es.take k = n.es := List.take_of_length_le (by omega)
          rw [hke] at HO
          have hkl : (kidsN n).length ≤ 1000 := by unfold kidsN; rw [List.length_append, keysP_len, keysE_len]; exact hl
          have OF := Lib.hid (refOf_any _ _ _ HO.out.strs (by rw [strsOf_len]; show (kidsN n).length ≤ _; omega))
          rw [txts_strsOf] at OF
          clear hO hke
          go_wp2_with fail
          refine OF.out.mono ?_
          rintro e w8 ⟨v8, rfl, hs8, hb8⟩
          have HS := Lib.hid hs8; have HB8 := Lib.hid (below_step HBV.out (below_step hB hb8))
          obtain ⟨_, a8, c8, hv8, _, _⟩ := hs8
          subst hv8
          clear hb8 hB
          go_wp2
          go_ret
          exact ⟨_, rfl, HS.out, HB8.out⟩
end Go.Proofs.YtohicccbaenegaaGreatDoor

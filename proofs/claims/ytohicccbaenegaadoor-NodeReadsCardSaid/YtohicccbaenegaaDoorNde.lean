/-
  Contracts over this translation: the document's part, entry.
-/
import Derived.Test.YtohicccbaenegaaDoorNdk
import Derived.Test.YtohicccbaenegaaDoorNdd
import Derived.Test.YtohicccbaenegaaDoorTxt
import Derived.StillTailTactics
set_option linter.unusedVariables false
namespace Go.Proofs.YtohicccbaenegaaDoor
open Go.RowKit
attribute [local go_sem] Oper.semAt_some

def rPartV (o : Option (Pt × List UInt8)) : Value := match o with
  | some x => .tuple #[.agg #[.string x.1.k, .int .i64 x.1.n], .string ⟨x.2.toArray⟩, .bool true]
  | none => .tuple #[.agg #[.string ⟨#[]⟩, .int .i64 0], .string ⟨#[]⟩, .bool false]
set_option maxRecDepth 100000 in
set_option maxHeartbeats 600000 in
theorem rpart_any (S : ByteArray) (hS : S.size ≤ 1000000) (w : World) :
    Calls Tryd.prog 13 #[.string S] w fun e w' => e = .returned (rPartV (pPart S.data.toList)) ∧ Below w.heap.size w w' := by
  have hlen := Lib.size_eq S
  by_cases h32 : S.size < 32
  · have hO : Hid (pPart S.data.toList = none) := Lib.hid (by unfold pPart; rw [if_pos (by omega)])
    have q : decide (S.size < 32) = true := decide_eq_true h32
    have q' : decide ((S.size : Int) < 32) = true := decide_eq_true (by omega)
    clear h32 hlen
    go_enter Tryd.func13, Tryd.ntmps13
    go_wp2
    exact bodyPost_ret (v := .tuple #[.agg #[.string ⟨#[]⟩, .int .i64 0], .string ⟨#[]⟩, .bool false]) (by simp [results, Tryd.results13, go_sem]) rfl ⟨by rw [hO.out]; rfl, (Below.refl _ _).alloc (Nat.le_refl _) _⟩
  · have q' : decide ((S.size : Int) < 32) = false := decide_eq_false (by omega)
    have hge : ¬ ((S.size : Int) < 32) := by omega
    have hRl : (S.extract 32 S.size).data.toList = S.data.toList.drop 32 := drop_str S 32
    have hKl : (S.extract 0 32).data.toList = S.data.toList.take 32 := take_str S 32
    have hRs : (S.extract 32 S.size).size = S.size - 32 := by rw [Lib.size_eq, hRl, List.length_drop, ← hlen]
    have T := Lib.hid (fun w => refTake_any (S.extract 32 S.size) (by unfold maxLen; omega) w)
    rw [hRl] at T
    obtain ⟨n, j, x, hv⟩ : ∃ n j x, vtake (S.data.toList.drop 32) = (n, j, x) := ⟨_, _, _, rfl⟩
    rw [hv] at T
    by_cases hx : x = 0
    · subst hx
      obtain ⟨_, _, hj, _, _⟩ := put_take hv
      rw [List.length_drop, ← hlen] at hj
      by_cases h4 : 4096 < n
      · have hO : Hid (pPart S.data.toList = none) := Lib.hid (by unfold pPart; rw [if_neg (by omega), hv, if_neg (by simp), if_pos h4])
        have q2 : decide ((4096 : Int) < (n : Int)) = true := decide_eq_true (by omega)
        clear hv h4 h32 hlen hRs hRl hKl
        go_enter Tryd.func13, Tryd.ntmps13
        go_wp2_with fail
        with_reducible refine (T.out _).mono ?_
        rintro e w1 ⟨rfl, hw1⟩
        subst hw1
        go_wp2
        exact bodyPost_ret (v := .tuple #[.agg #[.string ⟨#[]⟩, .int .i64 0], .string ⟨#[]⟩, .bool false]) (by simp [results, Tryd.results13, go_sem]) rfl ⟨by rw [hO.out]; rfl, (Below.refl _ _).alloc (Nat.le_refl _) _⟩
      · have hO : Hid (pPart S.data.toList = some (⟨S.extract 0 32, (n : Int)⟩, (S.data.toList.drop 32).drop j)) := Lib.hid (by
          unfold pPart; rw [if_neg (by omega), hv, if_neg (by simp), if_neg h4, List.drop_drop, ← hKl])
        have q2 : decide ((4096 : Int) < (n : Int)) = false := decide_eq_false (by omega)
        have hn : n ≤ 4096 := by omega
        have hs2 := fun W => run_slice_from (P := Tryd.prog) Tryd.underlying9 S (32 + j) (by omega) W
        obtain ⟨Q, hQ⟩ : ∃ Q, Q = S.extract (32 + j) S.size := ⟨_, rfl⟩
        rw [← hQ] at hs2
        have hQl : Hid (Q = ⟨((S.data.toList.drop 32).drop j).toArray⟩) := Lib.hid (str_eq' (by rw [hQ, drop_str, List.drop_drop]))
        have hw1 : IntKind.i64.wrap (32 + (j : Int)) = ((32 + j : Nat) : Int) := by rw [IntKind.wrap_i64]; omega
        have hs3 : ∀ W, Sem.run Tryd.prog (Instr.slice 9 (.string S) (some (.int .i64 (32 + (j : Int)))) none none) W = .ok (.string Q) W := fun W => by
          have := hs2 W; push_cast at this; exact this
        clear hv h4 h32 hs2 hQ hRl hKl hlen hRs
        go_enter Tryd.func13, Tryd.ntmps13
        go_wp2_with fail
        with_reducible refine (T.out _).mono ?_
        rintro e w1 ⟨rfl, hw1'⟩
        subst hw1'
        go_wp2_with fail
        go_region
        go_wp2
        exact bodyPost_ret (v := .tuple #[.agg #[.string (S.extract 0 32), .int .i64 (n : Int)], .string Q, .bool true]) (by simp [results, Tryd.results13, go_sem]) rfl ⟨by rw [hO.out, hQl.out]; rfl, ((Below.refl _ _).alloc (Nat.le_refl _) _).drew⟩
    · have hO : Hid (pPart S.data.toList = none) := Lib.hid (by unfold pPart; rw [if_neg (by omega), hv, if_pos hx])
      have q2 : ((x : Int) != 0) = true := in_t (by omega)
      clear hv hx h32 hlen hRs hRl hKl
      go_enter Tryd.func13, Tryd.ntmps13
      go_wp2_with fail
      with_reducible refine (T.out _).mono ?_
      rintro e w1 ⟨rfl, hw1⟩
      subst hw1
      go_wp2
      exact bodyPost_ret (v := .tuple #[.agg #[.string ⟨#[]⟩, .int .i64 0], .string ⟨#[]⟩, .bool false]) (by simp [results, Tryd.results13, go_sem]) rfl ⟨by rw [hO.out]; rfl, (Below.refl _ _).alloc (Nat.le_refl _) _⟩

/-! ## entry -/
def dEntry (l : List UInt8) : Option (En × List UInt8 × Bool) :=
  if (vtakeText l).2.2 ≠ 0 then none
  else if (l.drop (vtakeText l).2.1).length < 33 then none
  else some (⟨⟨(vtakeText l).1.toArray⟩, ((kByte (l.drop (vtakeText l).2.1) % 4 : Nat) : Int), decide (4 ≤ kByte (l.drop (vtakeText l).2.1)),
    ⟨((l.drop ((vtakeText l).2.1 + 1)).take 32).toArray⟩⟩, l.drop ((vtakeText l).2.1 + 33), decide (kByte (l.drop (vtakeText l).2.1) < 8))
theorem dEntry_full {e : En} (h : okEn e = true) (r : List UInt8) : dEntry (enB e ++ r) = some (e, r, true) := by
  obtain ⟨h1, h2, h3⟩ := okEn_iff.1 h
  have h31 := (nameB_iff.1 h1).2.1
  have hl : e.k.data.toList.length = 32 := by rw [← Lib.size_eq]; exact h2
  have e0 : enB e ++ r = vputText e.m.data.toList ++ (enK e :: (e.k.data.toList ++ r)) := by unfold enB; simp [List.append_assoc]
  have e3 : vtakeText (enB e ++ r) = (e.m.data.toList, (vputText e.m.data.toList).length, 0) := by rw [e0]; exact takeText_putText (by omega) _
  have e1 : (enB e ++ r).drop (vputText e.m.data.toList).length = enK e :: (e.k.data.toList ++ r) := by rw [e0, List.drop_left]
  have e4 : (enB e ++ r).drop ((vputText e.m.data.toList).length + 1) = e.k.data.toList ++ r := by rw [← List.drop_drop, e1]; rfl
  have e5 : (enB e ++ r).drop ((vputText e.m.data.toList).length + 33) = r := by
    rw [show (vputText e.m.data.toList).length + 33 = (vputText e.m.data.toList).length + 1 + 32 by omega, ← List.drop_drop, e4, ← hl, List.drop_left]
  unfold dEntry
  rw [e3]
  simp only [e1, e4, e5]
  rw [if_neg (by simp), if_neg (by simp; omega)]
  have hk : kByte (enK e :: (e.k.data.toList ++ r)) = e.kd.toNat + if e.x then 4 else 0 := by
    show (enK e).toNat = _
    unfold enK
    rw [UInt8.toNat_ofNat']
    rcases h3 with h | ⟨h, _⟩ <;> rw [h] <;> cases e.x <;> rfl
  rw [hk]
  refine congrArg some (Prod.ext (en_ext (by show (ByteArray.mk _) = e.m; cases e.m; rfl) ?_ ?_ (by show ByteArray.mk _ = e.k; rw [← hl, List.take_left])) (Prod.ext rfl ?_))
  · rcases h3 with h | ⟨h, _⟩ <;> rw [h] <;> cases e.x <;> rfl
  · rcases h3 with h | ⟨h, hx⟩
    · rw [h]; cases e.x <;> rfl
    · rw [h, hx]; rfl
  · rcases h3 with h | ⟨h, hx⟩
    · rw [h]; cases e.x <;> rfl
    · rw [h, hx]; rfl
def rEntryV (o : Option (En × List UInt8 × Bool)) : Value := match o with
  | some x => .tuple #[.agg #[.string x.1.m, .int .i64 x.1.kd, .bool x.1.x, .string x.1.k], .string ⟨x.2.1.toArray⟩, .bool x.2.2]
  | none => .tuple #[.agg #[.string ⟨#[]⟩, .int .i64 0, .bool false, .string ⟨#[]⟩], .string ⟨#[]⟩, .bool false]
set_option maxRecDepth 100000 in
set_option maxHeartbeats 1000000 in
theorem rentry_any (S : ByteArray) (hS : S.size ≤ 1000000) (w : World) :
    Calls Tryd.prog 14 #[.string S] w fun e w' => e = .returned (rEntryV (dEntry S.data.toList)) ∧ Below w.heap.size w w' := by
  have hlen := Lib.size_eq S
  have T := Lib.hid (fun w => refTakeText_any S (by unfold maxLen; omega) w)
  obtain ⟨t, j, x, hv⟩ : ∃ n j x, vtakeText S.data.toList = (n, j, x) := ⟨_, _, _, rfl⟩
  rw [hv] at T
  by_cases hx : x = 0
  · subst hx
    have hj := (putText_takeText hv).1
    rw [← hlen] at hj
    by_cases h33 : S.size < j + 33
    · have hO : Hid (dEntry S.data.toList = none) := Lib.hid (by unfold dEntry; rw [hv, if_neg (by simp), if_pos (by rw [List.length_drop, ← hlen]; show S.size - j < 33; omega)])
      have q : decide ((S.size : Int) - (j : Int) < 33) = true := decide_eq_true (by omega)
      have hjb : j ≤ 1000000 := by omega
      clear hv h33 hlen
      go_enter Tryd.func14, Tryd.ntmps14
      go_wp2_with fail
      with_reducible refine (T.out _).mono ?_
      rintro e w1 ⟨rfl, hb1⟩
      subst hb1
      go_wp2
      exact bodyPost_ret (v := .tuple #[.agg #[.string ⟨#[]⟩, .int .i64 0, .bool false, .string ⟨#[]⟩], .string ⟨#[]⟩, .bool false]) (by simp [results, Tryd.results14, go_sem]) rfl ⟨by rw [hO.out]; rfl, (Below.refl _ _).alloc (Nat.le_refl _) _⟩
    · have hjs : j < S.size := by omega
      obtain ⟨c, hc⟩ : ∃ c, c = S[j] := ⟨_, rfl⟩
      have hd : S.data.toList.drop j = c :: S.data.toList.drop (j + 1) := by
        rw [List.drop_eq_getElem_cons (by rw [← hlen]; exact hjs), hc]; congr 1
      obtain ⟨K, hK⟩ : ∃ K, K = S.extract (j + 1) (j + 33) := ⟨_, rfl⟩
      obtain ⟨Q, hQ⟩ : ∃ Q, Q = S.extract (j + 33) S.size := ⟨_, rfl⟩
      have hKl : K = ⟨((S.data.toList.drop (j + 1)).take 32).toArray⟩ := str_eq' (by rw [hK, Lib.extract_data, show j + 33 - (j + 1) = 32 by omega])
      have hQl : Hid (Q = ⟨(S.data.toList.drop (j + 33)).toArray⟩) := Lib.hid (str_eq' (by rw [hQ, drop_str]))
      have hs1 : ∀ W, Sem.run Tryd.prog (Instr.slice 9 (.string S) (some (.int .i64 ((j : Int) + 1))) (some (.int .i64 ((j : Int) + 1 + 32))) none) W = .ok (.string K) W := fun W => by
        have := run_slice_str (P := Tryd.prog) Tryd.underlying9 S ((j : Int) + 1) ((j : Int) + 1 + 32) (by omega) (by omega) (by omega) W
        rw [this, hK]; congr 3 <;> omega
      have hs2 : ∀ W, Sem.run Tryd.prog (Instr.slice 9 (.string S) (some (.int .i64 ((j : Int) + 1 + 32))) none none) W = .ok (.string Q) W := fun W => by
        have := run_slice_from (P := Tryd.prog) Tryd.underlying9 S (j + 33) (by omega) W
        rw [hQ, ← this]; congr 4
      have hO : Hid (dEntry S.data.toList = some (⟨⟨t.toArray⟩, ((c.toNat % 4 : Nat) : Int), decide (4 ≤ c.toNat), K⟩, S.data.toList.drop (j + 33), decide (c.toNat < 8))) := Lib.hid (by
        unfold dEntry; rw [hv, if_neg (by simp), if_neg (by rw [List.length_drop, ← hlen]; show ¬ S.size - j < 33; omega)]
        simp only [hd, hKl]; rfl)
      have q : decide ((S.size : Int) - (j : Int) < 33) = false := decide_eq_false (by omega)
      have hjb : j ≤ 1000000 := by omega
      have hcl := c.toNat_lt
      have q8 : decide (c.toNat < 8) = decide ((c.toNat : Int) < 8) := decide_eq_decide.2 (by omega)
      have q4 : decide (4 ≤ c.toNat) = decide ((4 : Int) ≤ (c.toNat : Int)) := decide_eq_decide.2 (by omega)
      have hmod : ((c.toNat % 4 : Nat) : Int) = (c.toNat : Int) % 4 := by omega
      rw [q8, q4, hmod] at hO
      have hci : S[j] = c := hc.symm
      clear hv h33 hlen hd hK hQ hKl q8 q4 hmod hc
      go_enter Tryd.func14, Tryd.ntmps14
      go_wp2_with fail
      with_reducible refine (T.out _).mono ?_
      rintro e w1 ⟨rfl, hb1⟩
      subst hb1
      go_wp2_with fail
      go_region
      go_wp2
      exact bodyPost_ret (v := .tuple #[.agg #[.string ⟨t.toArray⟩, .int .i64 ((c.toNat : Int) % 4), .bool (decide ((4 : Int) ≤ (c.toNat : Int))), .string K], .string Q, .bool (decide ((c.toNat : Int) < 8))]) (by simp [results, Tryd.results14, go_sem]) rfl ⟨by rw [hO.out, hQl.out]; rfl, (((Below.refl _ _).alloc (Nat.le_refl _) _).alloc (by simp) _).drew⟩
  · have hO : Hid (dEntry S.data.toList = none) := Lib.hid (by unfold dEntry; rw [hv, if_pos hx])
    have q2 : ((x : Int) != 0) = true := in_t (by omega)
    clear hv hx hlen
    go_enter Tryd.func14, Tryd.ntmps14
    go_wp2_with fail
    with_reducible refine (T.out _).mono ?_
    rintro e w1 ⟨rfl, hb1⟩
    subst hb1
    go_wp2
    exact bodyPost_ret (v := .tuple #[.agg #[.string ⟨#[]⟩, .int .i64 0, .bool false, .string ⟨#[]⟩], .string ⟨#[]⟩, .bool false]) (by simp [results, Tryd.results14, go_sem]) rfl ⟨by rw [hO.out]; rfl, (Below.refl _ _).alloc (Nat.le_refl _) _⟩
end Go.Proofs.YtohicccbaenegaaDoor

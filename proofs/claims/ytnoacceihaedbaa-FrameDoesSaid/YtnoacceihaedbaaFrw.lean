/-
  Contracts over this translation: frame's Wrap and Open, and the document's.
-/
import Derived.Test.YtnoacceihaedbaaTxt
import Derived.Test.YtnoacceihaedbaaCrb
import Derived.Test.YtnoacceihaedbaaFrm
import Derived.Lib.QuietBelow
import Derived.Deep.QuietTactic
import Derived.BigQuiet
import Derived.WalkSmall
import Derived.Lib.IndexBytes
import Derived.Lib.SlicesS
set_option linter.unusedVariables false
namespace Go.Proofs.Ytnoacceihaedbaa
open Go.RowKit

theorem size_mk (l : List UInt8) : (⟨l.toArray⟩ : ByteArray).size = l.length := by simp [ByteArray.size]
set_option maxRecDepth 100000 in
theorem bodySum_any (s : ByteArray) (hs : s.size ≤ maxLen) (w : World) :
    Calls Try.prog 16 #[.string s] w fun e w' => e = .returned (.string ⟨(le4 (crcMore 0 s.data.toList)).toArray⟩) ∧ Below w.heap.size w w' := by
  go_enter Try.func16, Try.ntmps16
  go_wp2_with fail
  refine (Sum_any s hs _).mono ?_
  rintro e w1 ⟨rfl, hb1⟩
  go_wp2_with fail
  refine (Bytes_any _ (crcMore_lt _ _) _).mono ?_
  rintro e w2 ⟨rfl, hb2⟩
  go_wp2
  go_ret
  exact ⟨rfl, below_step hb1 hb2⟩

theorem app_mk (a b : List UInt8) : (⟨a.toArray⟩ : ByteArray) ++ ⟨b.toArray⟩ = ⟨(a ++ b).toArray⟩ := by rw [bytes_append]
theorem data_mk (a : List UInt8) : (⟨a.toArray⟩ : ByteArray).data.toList = a := rfl

set_option maxRecDepth 100000 in
theorem Wrap_any (s : ByteArray) (hs : s.size ≤ maxLen) (w : World) :
    Calls Try.prog 12 #[.string s] w fun e w' => e = .returned (.string ⟨(fwrap s.data.toList).toArray⟩) ∧ Below w.heap.size w w' := by
  have hsm : s.size ≤ 9223372036854775807 := by unfold maxLen at hs; omega
  have HS := Lib.hid (Lib.size_eq s)
  by_cases h : s.size ≤ 65536
  · have HV := Lib.hid (fwrap_eq (l := s.data.toList) (by rw [← HS.out]; exact h))
    have hp := (putText_len (l := s.data.toList) (by rw [← HS.out]; exact h)).2
    rw [← HS.out] at hp
    obtain ⟨t, ht⟩ : ∃ t, t = vputText s.data.toList := ⟨_, rfl⟩
    have hP := fun w => PutText_any s hs w
    rw [← ht] at hP hp
    have HP := Lib.hid hP; have HT := Lib.hid ht
    have hl : (⟨t.toArray⟩ : ByteArray).size ≤ maxLen := by rw [size_mk]; unfold maxLen; omega
    have hsum : ¬ 9223372036854775807 < t.length + 4 := by omega
    have hB := fun w => bodySum_any ⟨t.toArray⟩ hl w
    have HB := Lib.hid hB
    clear hP hB ht
    go_enter Try.func12, Try.ntmps12
    go_wp2_with fail
    refine (HP.out _).mono ?_
    rintro e w1 ⟨rfl, hb1⟩
    go_wp2_with fail
    refine (HB.out _).mono ?_
    rintro e w2 ⟨rfl, hb2⟩
    go_wp2
    go_ret
    exact ⟨by rw [HV.out, ← HT.out]; exact congrArg (fun x => Ending.returned (.string x)) (app_mk _ _), below_step hb1 hb2⟩
  · have hv : fwrap s.data.toList = [] := by rw [fwrap, if_pos (by rw [← HS.out]; omega)]
    have HV := Lib.hid hv; clear hv
    go_enter Try.func12, Try.ntmps12
    go_wp2
    go_ret
    exact ⟨by rw [HV.out]; rfl, Below.refl _ _⟩

set_option maxRecDepth 100000 in
theorem refWrap_any (s : ByteArray) (hs : s.size ≤ maxLen) (w : World) :
    Calls Try.prog 13 #[.string s] w fun e w' => e = .returned (.string ⟨(fwrap s.data.toList).toArray⟩) ∧ Below w.heap.size w w' := by
  have hsm : s.size ≤ 9223372036854775807 := by unfold maxLen at hs; omega
  have HS := Lib.hid (Lib.size_eq s)
  by_cases h : s.size ≤ 65536
  · have HV := Lib.hid (fwrap_eq (l := s.data.toList) (by rw [← HS.out]; exact h))
    have hp := (putText_len (l := s.data.toList) (by rw [← HS.out]; exact h)).2
    have hp0 := (putText_len (l := s.data.toList) (by rw [← HS.out]; exact h)).1
    rw [← HS.out] at hp hp0
    obtain ⟨t, ht⟩ : ∃ t, t = vputText s.data.toList := ⟨_, rfl⟩
    have hP := fun w => refPutText_any s hs w
    rw [← ht] at hP hp hp0
    have HP := Lib.hid hP; have HT := Lib.hid ht
    have hl : (⟨t.toArray⟩ : ByteArray).size ≤ maxLen := by rw [size_mk]; unfold maxLen; omega
    have hsum : ¬ 9223372036854775807 < t.length + 4 := by omega
    have hne : t ≠ [] := fun e => by rw [e] at hp0; simp at hp0
    have hne2 : t.isEmpty = false := by simpa using hne
    have hB := fun w => refSum_any ⟨t.toArray⟩ hl w
    have hB2 := fun w => refBytes_any (crcMore 0 t) (crcMore_lt _ _) w
    have HB := Lib.hid hB
    have HB2 := Lib.hid hB2
    clear hP hB hB2 ht
    go_enter Try.func13, Try.ntmps13
    go_wp2_with fail
    refine (HP.out _).mono ?_
    rintro e w1 ⟨rfl, hb1⟩
    go_wp2_with fail
    refine (HB.out _).mono ?_
    rintro e w2 ⟨rfl, rfl⟩
    go_wp2_with fail
    refine (HB2.out _).mono ?_
    rintro e w2 ⟨rfl, hb2⟩
    go_wp2
    go_ret
    exact ⟨by rw [HV.out, ← HT.out]; exact congrArg (fun x => Ending.returned (.string x)) (app_mk _ _), below_step hb1 hb2⟩
  · have hv : fwrap s.data.toList = [] := by rw [fwrap, if_pos (by rw [← HS.out]; omega)]
    have hq : vputText s.data.toList = [] := by rw [vputText, if_pos (by rw [← HS.out]; omega)]
    have hP := fun w => refPutText_any s hs w
    rw [hq] at hP
    have HP := Lib.hid hP
    have HV := Lib.hid hv; clear hv hq hP
    go_enter Try.func13, Try.ntmps13
    go_wp2_with fail
    refine (HP.out _).mono ?_
    rintro e w1 ⟨rfl, hb1⟩
    go_wp2
    go_ret
    exact ⟨by rw [HV.out]; rfl, hb1⟩

theorem str_ne {x y : ByteArray} (h : x ≠ y) : (x.toList == y.toList) = false ∧ (x.toList != y.toList) = true := by
  have h1 : (x.toList == y.toList) = false := (Lib.bytes_beq_false_iff x y).2 h
  exact ⟨h1, by simp [bne, h1]⟩
theorem data_eq {a b : ByteArray} : a = b ↔ a.data.toList = b.data.toList := by
  constructor
  · intro h; rw [h]
  · intro h; apply ByteArray.ext; exact Array.toList_inj.1 h
/-- What Open is told, spelled by what TakeText tells. -/
theorem fopen_of {l b : List UInt8} {k e : Nat} (h : vtakeText l = (b, k, e)) :
    fopen l = if e ≠ 0 then ([], 0, e) else if l.length < k + 4 then ([], 0, 1) else if (l.drop k).take 4 ≠ le4 (crcMore 0 (l.take k)) then ([], 0, 3) else (b, k + 4, 0) := by
  rw [fopen, h]

set_option maxRecDepth 100000 in
set_option maxHeartbeats 1000000 in
theorem Open_any (s : ByteArray) (hs : s.size ≤ maxLen) (w : World) :
    Calls Try.prog 8 #[.string s] w fun e w' => e = .returned (.tuple #[.string ⟨(fopen s.data.toList).1.toArray⟩, .int .i64 ((fopen s.data.toList).2.1 : Nat), .int .i64 ((fopen s.data.toList).2.2 : Nat)]) ∧ Below w.heap.size w w' := by
  have hsm : s.size ≤ 9223372036854775807 := by unfold maxLen at hs; omega
  have HS := Lib.hid (Lib.size_eq s)
  have hc := fun w => TakeText_any s hs w
  obtain ⟨b, k, e, hv⟩ : ∃ b k e, vtakeText s.data.toList = (b, k, e) := ⟨_, _, _, rfl⟩
  rw [hv] at hc
  have HC := Lib.hid hc; clear hc
  have HV := Lib.hid (fopen_of hv)
  by_cases he : e = 0
  · subst he
    obtain ⟨h1, h2, h3, h4⟩ := takeText_ok hv
    rw [← HS.out] at h3
    clear hv h4
    have hd1 := fun W => run_slice_to (P := Try.prog) Try.underlying9 s k h3 W
    have hd2 := fun W => run_slice_from (P := Try.prog) Try.underlying9 s k h3 W
    have hx : (s.extract k s.size).size = s.size - k := by rw [ByteArray.size_extract]; omega
    by_cases hl : s.size < k + 4
    · have HR := Lib.hid (show fopen s.data.toList = ([], 0, 1) by rw [HV.out, if_neg (by simp), if_pos (by rw [← HS.out]; exact hl)])
      go_enter Try.func8, Try.ntmps8
      go_wp2_with fail
      refine (HC.out _).mono ?_
      rintro e w1 ⟨rfl, hb1⟩
      go_wp2_with fail
      go_quiet (fail)
      go_wp2
      go_ret3
      exact ⟨by rw [HR.out]; rfl, below_drewN hb1 _⟩
    · obtain ⟨bd, hbd⟩ : ∃ x, x = s.extract 0 k := ⟨_, rfl⟩
      obtain ⟨bh, hbh⟩ : ∃ x, x = s.extract k s.size := ⟨_, rfl⟩
      rw [← hbd] at hd1
      rw [← hbh] at hd2 hx
      have hbl : bd.size ≤ maxLen := by rw [hbd, ByteArray.size_extract]; unfold maxLen; omega
      have hB := fun W => bodySum_any bd hbl W
      obtain ⟨sm, hsm4⟩ : ∃ x : ByteArray, x = ⟨(le4 (crcMore 0 bd.data.toList)).toArray⟩ := ⟨_, rfl⟩
      rw [← hsm4] at hB
      have hA : bh.extract 0 4 = sm ↔ (s.data.toList.drop k).take 4 = le4 (crcMore 0 (s.data.toList.take k)) := by
        rw [data_eq, hsm4, hbd, hbh, Lib.extract_data, Lib.extract_to_end, Lib.extract_data]
        simp
      have HB := Lib.hid hB
      have hgt : (4 : Int) ≤ (bh.size : Int) := by omega
      clear hB hsm4 hbd hbh hx
      by_cases hq : bh.extract 0 4 = sm
      · have HR := Lib.hid (show fopen s.data.toList = (b, k + 4, 0) by rw [HV.out, if_neg (by simp), if_neg (by rw [← HS.out]; exact hl), if_neg (fun e => e (hA.1 hq))])
        have q1 : ((bh.extract 0 4).toList == sm.toList) = true := by rw [hq]; exact beq_self_eq_true _
        clear hA hq
        go_enter Try.func8, Try.ntmps8
        go_wp2_with fail
        refine (HC.out _).mono ?_
        rintro e w1 ⟨rfl, hb1⟩
        go_wp2_with fail
        go_quiet (fail)
        go_wp2_with fail
        refine wp_region_quiet_below (by kernel_rfl) (by kernel_rfl) ?_
        repeat (first | go_big_quiet_step ((exact Calls.regrown_of (HB.out _))) | quiet_step ((exact Calls.regrown_of (HB.out _))))
        refine wpQuiet_nil ?_
        intro wq hwq
        have hb2 : Below (w1.drewN nq).heap.size (w1.drewN nq) wq := by obtain ⟨p, rfl⟩ := hwq; exact below_regrown _ _ _
        clear hwq
        go_wp2
        go_ret3
        exact ⟨by rw [HR.out]; rfl, below_step (below_drewN hb1 nq) hb2⟩
      · obtain ⟨q1, q2⟩ := str_ne hq
        have HR := Lib.hid (show fopen s.data.toList = ([], 0, 3) by rw [HV.out, if_neg (by simp), if_neg (by rw [← HS.out]; exact hl), if_pos (fun e => hq (hA.2 e))])
        clear hA hq
        go_enter Try.func8, Try.ntmps8
        go_wp2_with fail
        refine (HC.out _).mono ?_
        rintro e w1 ⟨rfl, hb1⟩
        go_wp2_with fail
        go_quiet (fail)
        go_wp2_with fail
        refine wp_region_quiet_below (by kernel_rfl) (by kernel_rfl) ?_
        repeat (first | go_big_quiet_step ((exact Calls.regrown_of (HB.out _))) | quiet_step ((exact Calls.regrown_of (HB.out _))))
        refine wpQuiet_nil ?_
        intro wq hwq
        have hb2 : Below (w1.drewN nq).heap.size (w1.drewN nq) wq := by obtain ⟨p, rfl⟩ := hwq; exact below_regrown _ _ _
        clear hwq
        go_wp2
        go_ret3
        exact ⟨by rw [HR.out]; rfl, below_step (below_drewN hb1 nq) hb2⟩
  · obtain ⟨rfl, rfl⟩ := takeText_err hv he
    have HR := Lib.hid (show fopen s.data.toList = ([], 0, e) by rw [HV.out, if_pos he])
    have he' : (!((e : Int) == 0)) = true := by simp; omega
    have he2 : ((e : Int) != 0) = true := by simp; omega
    clear hv
    go_enter Try.func8, Try.ntmps8
    go_wp2_with fail
    refine (HC.out _).mono ?_
    rintro e w1 ⟨rfl, hb1⟩
    go_wp2
    go_ret3
    exact ⟨by rw [HR.out]; rfl, hb1⟩

set_option maxRecDepth 100000 in
set_option maxHeartbeats 1000000 in
theorem refOpen_any (s : ByteArray) (hs : s.size ≤ maxLen) (w : World) :
    Calls Try.prog 9 #[.string s] w fun e w' => e = .returned (.tuple #[.string ⟨(fopen s.data.toList).1.toArray⟩, .int .i64 ((fopen s.data.toList).2.1 : Nat), .int .i64 ((fopen s.data.toList).2.2 : Nat)]) ∧ Below w.heap.size w w' := by
  have hsm : s.size ≤ 9223372036854775807 := by unfold maxLen at hs; omega
  have HS := Lib.hid (Lib.size_eq s)
  have hc := fun w => refTakeText_any s hs w
  obtain ⟨b, k, e, hv⟩ : ∃ b k e, vtakeText s.data.toList = (b, k, e) := ⟨_, _, _, rfl⟩
  rw [hv] at hc
  have HC := Lib.hid hc; clear hc
  have HV := Lib.hid (fopen_of hv)
  by_cases he : e = 0
  · subst he
    obtain ⟨h1, h2, h3, h4⟩ := takeText_ok hv
    rw [← HS.out] at h3
    clear hv h4
    have hd1 := fun W => run_slice_to (P := Try.prog) Try.underlying9 s k h3 W
    by_cases hl : s.size < k + 4
    · have HR := Lib.hid (show fopen s.data.toList = ([], 0, 1) by rw [HV.out, if_neg (by simp), if_pos (by rw [← HS.out]; exact hl)])
      go_enter Try.func9, Try.ntmps9
      go_wp2_with fail
      refine (HC.out _).mono ?_
      rintro e w1 ⟨rfl, rfl⟩
      go_wp2
      go_ret3
      exact ⟨by rw [HR.out]; rfl, Below.refl _ _⟩
    · obtain ⟨bd, hbd⟩ : ∃ x, x = s.extract 0 k := ⟨_, rfl⟩
      rw [← hbd] at hd1
      have hbl : bd.size ≤ maxLen := by rw [hbd, ByteArray.size_extract]; unfold maxLen; omega
      have hB := fun W => refSum_any bd hbl W
      have hB2 := fun W => refBytes_any (crcMore 0 bd.data.toList) (crcMore_lt _ _) W
      obtain ⟨sm, hsm4⟩ : ∃ x : ByteArray, x = ⟨(le4 (crcMore 0 bd.data.toList)).toArray⟩ := ⟨_, rfl⟩
      rw [← hsm4] at hB2
      have hd3 := fun W => run_slice_str (P := Try.prog) Try.underlying9 s (k : Int) ((k : Int) + 4) (by omega) (by omega) (by omega) W
      rw [show ((k : Int) + 4).toNat = k + 4 by omega, show ((k : Int)).toNat = k by omega] at hd3
      have hA : s.extract k (k + 4) = sm ↔ (s.data.toList.drop k).take 4 = le4 (crcMore 0 (s.data.toList.take k)) := by
        rw [data_eq, hsm4, hbd, Lib.extract_data, Lib.extract_data]
        simp
      have HB := Lib.hid hB
      have HB2 := Lib.hid hB2
      have hw4 : IntKind.i64.wrap ((k : Int) + 4) = (k : Int) + 4 := IntWalk.i64_in _ (by omega)
      clear hB hsm4 hbd hB2
      by_cases hq : s.extract k (k + 4) = sm
      · have HR := Lib.hid (show fopen s.data.toList = (b, k + 4, 0) by rw [HV.out, if_neg (by simp), if_neg (by rw [← HS.out]; exact hl), if_neg (fun e => e (hA.1 hq))])
        have q1 : ((s.extract k (k + 4)).toList == sm.toList) = true := by rw [hq]; exact beq_self_eq_true _
        clear hA hq
        go_enter Try.func9, Try.ntmps9
        go_wp2_with fail
        refine (HC.out _).mono ?_
        rintro e w1 ⟨rfl, rfl⟩
        go_wp2_with fail
        refine wp_region_quiet_below (by kernel_rfl) (by kernel_rfl) ?_
        repeat (first | go_big_quiet_step ((first | (go_at_call 19; exact Calls.regrown_of ((HB.out _).mono fun _ _ ⟨he, hw⟩ => ⟨he, hw ▸ Below.refl _ _⟩)) | exact Calls.regrown_of (HB2.out _))) | quiet_step ((first | (go_at_call 19; exact Calls.regrown_of ((HB.out _).mono fun _ _ ⟨he, hw⟩ => ⟨he, hw ▸ Below.refl _ _⟩)) | exact Calls.regrown_of (HB2.out _))))
        refine wpQuiet_nil ?_
        intro wq hwq
        have hb2 : Below w1.heap.size w1 wq := by obtain ⟨p, rfl⟩ := hwq; exact below_regrown _ _ _
        clear hwq
        go_wp2
        go_ret3
        exact ⟨by rw [HR.out]; rfl, hb2⟩
      · obtain ⟨q1, q2⟩ := str_ne hq
        have HR := Lib.hid (show fopen s.data.toList = ([], 0, 3) by rw [HV.out, if_neg (by simp), if_neg (by rw [← HS.out]; exact hl), if_pos (fun e => hq (hA.2 e))])
        clear hA hq
        go_enter Try.func9, Try.ntmps9
        go_wp2_with fail
        refine (HC.out _).mono ?_
        rintro e w1 ⟨rfl, rfl⟩
        go_wp2_with fail
        refine wp_region_quiet_below (by kernel_rfl) (by kernel_rfl) ?_
        repeat (first | go_big_quiet_step ((first | (go_at_call 19; exact Calls.regrown_of ((HB.out _).mono fun _ _ ⟨he, hw⟩ => ⟨he, hw ▸ Below.refl _ _⟩)) | exact Calls.regrown_of (HB2.out _))) | quiet_step ((first | (go_at_call 19; exact Calls.regrown_of ((HB.out _).mono fun _ _ ⟨he, hw⟩ => ⟨he, hw ▸ Below.refl _ _⟩)) | exact Calls.regrown_of (HB2.out _))))
        refine wpQuiet_nil ?_
        intro wq hwq
        have hb2 : Below w1.heap.size w1 wq := by obtain ⟨p, rfl⟩ := hwq; exact below_regrown _ _ _
        clear hwq
        go_wp2
        go_ret3
        exact ⟨by rw [HR.out]; rfl, hb2⟩
  · obtain ⟨rfl, rfl⟩ := takeText_err hv he
    have HR := Lib.hid (show fopen s.data.toList = ([], 0, e) by rw [HV.out, if_pos he])
    have he' : (!((e : Int) == 0)) = true := by simp; omega
    have he2 : ((e : Int) != 0) = true := by simp; omega
    clear hv
    go_enter Try.func9, Try.ntmps9
    go_wp2_with fail
    refine (HC.out _).mono ?_
    rintro e w1 ⟨rfl, rfl⟩
    go_wp2
    go_ret3
    exact ⟨by rw [HR.out]; rfl, Below.refl _ _⟩
end Go.Proofs.Ytnoacceihaedbaa

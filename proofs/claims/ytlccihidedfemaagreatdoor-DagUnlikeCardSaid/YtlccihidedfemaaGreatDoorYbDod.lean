/-
  Contracts over this translation: the document's rawDir and Raws.
-/
import Derived.Test.YtlccihidedfemaaGreatDoorYbDog
import Derived.Test.YtlccihidedfemaaGreatDoorQb4
set_option linter.unusedVariables false
namespace Go.Proofs.YtlccihidedfemaaGreatDoor
open Go.RowKit
attribute [local go_sem] Oper.semAt_some
set_option maxRecDepth 100000 in
set_option maxHeartbeats 8000000 in
theorem raw_zero (mn av b mx : Nat) (I : List It) : RawAt mn av b mx I 0 := by
 intro dp hdp W0 v iv M d w hbw ho hi hL
 obtain ⟨V, hV⟩ : ∃ V, V = (w.alloc (.cells #[.int .i64 mn, .int .i64 av, .int .i64 mx] 23)).alloc (.cells #[.int .i64 3, .string ⟨#[]⟩, .slice none 0 0, .slice none 0 0] 44) := ⟨_, rfl⟩
 have hbV : Below w.heap.size w V := by rw [hV]; exact ((Below.refl _ _).alloc (Nat.le_refl _) _).alloc (by simp) _
 have hRN : Row V (w.heap.size + 1) #[.int .i64 3, .string ⟨#[]⟩, .slice none 0 0, .slice none 0 0] 44 := by
  have := Row.made (w.alloc (.cells #[.int .i64 mn, .int .i64 av, .int .i64 mx] 23)) #[.int .i64 3, .string ⟨#[]⟩, .slice none 0 0, .slice none 0 0] 44
  rw [hV]; simpa using this
 have x0 := hRN.cell 0; have x1 := hRN.cell 1; have x2 := hRN.cell 2; have x3 := hRN.cell 3
 simp only [List.getElem?_toArray, List.getElem?_cons_zero, List.getElem?_cons_succ] at x0 x1 x2 x3
 have q8 : decide ((dp : Int) ≤ 8) = false := by simp; omega
 have HV := Lib.hid hV; have HB0 := Lib.hid hbV
 have HO := Lib.hid (ho.stays hbV); have HBW := Lib.hid (below_step hbw hbV)
 obtain ⟨S, hS⟩ : ∃ S : ByteArray, S = ⟨(wrN ⟨3, ⟨#[]⟩, [], []⟩).toArray⟩ := ⟨_, rfl⟩
 have CW : Hid (∀ W, Calls Tryz.prog 43 #[.agg #[.int .i64 3, .string ⟨#[]⟩, .slice none 0 0, .slice none 0 0]] W fun e w' => e = .returned (.string S) ∧ Below W.heap.size W w') := Lib.hid (fun W => by
  rw [hS]; exact rWrite_any ⟨3, ⟨#[]⟩, [], []⟩ (.slice none 0 0) (.slice none 0 0) W (parts_nil _) (entries_nil _))
 have HE : Hid (M ++ (seqD (cutN mn b mx) I 0 d.data.toList).map wrN = M ++ [S.data.toList]) := Lib.hid (by rw [hS]; rfl)
 rw [HE.out]
 obtain ⟨hm1, a1, cap1, rfl, _, _⟩ := hi
 have hmm : I.length ≤ 9223372036854775807 := by unfold maxLen at hm1; omega
 have hol : M.length ≤ 1000000 := by omega
 clear hV hbV hRN hm1 hL HE hS
 rcases h0 : decide ((0 : Int) < (I.length : Int)) with _ | _
 ·have h1 : ¬ 0 < I.length := by simpa using h0
  go_enter Tryz.func46, Tryz.ntmps46
  go_wp2_with fail
  rw [← HV.out]
  refine wp_loop_rounds 1 ?_
  rw [rounds_succ]
  go_wp2_with fail
  with_reducible refine (CW.out _).mono ?_
  rintro e w8 ⟨rfl, hb8⟩
  have HO8 := Lib.hid (HO.out.stays hb8)
  have hz8 : W0.heap.size ≤ w8.heap.size := (below_step HBW.out hb8).size
  have hk8 := Kept.of_below (B := W0.heap.size) (below_step HB0.out hb8)
  have HK8 := Lib.hid hk8
  clear hb8 x0 x1 x2 x3 hk8
  go_wp2_with (at_builtin; refine wpList_append_txt_at rfl _ _ rfl HO8.out hz8 rfl rfl rfl hol ?_)
  intro v' w9 hown9 hg9 _
  have HK9 := Lib.hid (HK8.out.trans (Kept.grown hg9 fun g e => HO8.out.row e))
  have HS9 := Lib.hid hown9
  clear hown9 hg9
  go_wp2
  go_ret
  exact ⟨v', rfl, HS9.out, HK9.out⟩
 ·have h1 : 0 < I.length := by simpa using h0
  go_enter Tryz.func46, Tryz.ntmps46
  go_wp2_with fail
  rw [← HV.out]
  refine wp_loop_rounds 1 ?_
  rw [rounds_succ]
  go_wp2_with fail
  with_reducible refine (CW.out _).mono ?_
  rintro e w8 ⟨rfl, hb8⟩
  have HO8 := Lib.hid (HO.out.stays hb8)
  have hz8 : W0.heap.size ≤ w8.heap.size := (below_step HBW.out hb8).size
  have hk8 := Kept.of_below (B := W0.heap.size) (below_step HB0.out hb8)
  have HK8 := Lib.hid hk8
  clear hb8 x0 x1 x2 x3 hk8
  go_wp2_with (at_builtin; refine wpList_append_txt_at rfl _ _ rfl HO8.out hz8 rfl rfl rfl hol ?_)
  intro v' w9 hown9 hg9 _
  have HK9 := Lib.hid (HK8.out.trans (Kept.grown hg9 fun g e => HO8.out.row e))
  have HS9 := Lib.hid hown9
  clear hown9 hg9
  go_wp2
  go_ret
  exact ⟨v', rfl, HS9.out, HK9.out⟩
theorem rawAt_all (mn av b mx : Nat) (hF : FitAt mn av mx b) (I : List It) (R : ReadyT (cutN mn b mx) I) (hs : ∀ x ∈ I, x.p.size ≤ 100000 ∧ x.c.size ≤ 100000) : ∀ k, RawAt mn av b mx I k
 | 0 => raw_zero mn av b mx I
 | k + 1 => raw_step mn av b mx hF I R hs k (rawAt_all mn av b mx hF I R hs k)
set_option maxRecDepth 100000 in
set_option maxHeartbeats 8000000 in
theorem rRaws_any (mn av b mx : Nat) (hF : FitAt mn av mx b) (iv : Value) (I : List It) (w : World) (hi : IsItems w iv I) (R : ReadyT (cutN mn b mx) I) (hs : ∀ x ∈ I, x.p.size ≤ 100000 ∧ x.c.size ≤ 100000) :
  Calls Tryz.prog 27 #[pV mn av mx, iv] w fun e w' => ∃ v', e = .returned v' ∧ OwnTxt w w' v' (rawsT (cutN mn b mx) I) ∧ Below w.heap.size w w' := by
 have hlen := seqT_len R
 obtain ⟨V, hV⟩ : ∃ V, V = w.alloc (.cells #[.int .i64 mn, .int .i64 av, .int .i64 mx] 23) := ⟨_, rfl⟩
 have hbV : Below w.heap.size w V := by rw [hV]; exact (Below.refl _ _).alloc (Nat.le_refl _) _
 have hR0 : Row V w.heap.size #[.int .i64 mn, .int .i64 av, .int .i64 mx] 23 := by rw [hV]; exact Row.made _ _ _
 have p0 := hR0.cell 0; have p1 := hR0.cell 1; have p2 := hR0.cell 2
 simp only [List.getElem?_toArray, List.getElem?_cons_zero, List.getElem?_cons_succ] at p0 p1 p2
 have CK : Hid (Calls Tryz.prog 46 #[pV mn av mx, iv, .slice none 0 0, .string ⟨#[]⟩, .int .i64 0] V (RetRaw w (rawsT (cutN mn b mx) I) V)) := Lib.hid
  (rawAt_all mn av b mx hF I R hs 9 0 rfl w (.slice none 0 0) iv [] ⟨#[]⟩ V hbV ((ownTxt_nil w).stays hbV) hi (by
   have : (seqD (cutN mn b mx) I 9 (⟨#[]⟩ : ByteArray).data.toList).length ≤ 70000 := hlen
   have h7 : (seqD (cutN mn b mx) I 9 (⟨#[]⟩ : ByteArray).data.toList).length ≤ 700000 := by omega
   simpa using h7))
 have HV := Lib.hid hV; have HB0 := Lib.hid hbV
 obtain ⟨_, a1, cap1, rfl, _, _⟩ := hi
 clear hF hs hlen hV hbV hR0 R
 go_enter Tryz.func27, Tryz.ntmps27
 go_wp2_with fail
 rw [← HV.out]
 go_wp2_with fail
 with_reducible refine CK.out.mono ?_
 rintro e w8 ⟨v8, rfl, ho8, hk8⟩
 have HO8 := Lib.hid ho8
 have HB8 := Lib.hid (hk8.below HB0.out HB0.out.size)
 clear ho8 hk8 p0 p1 p2
 go_wp2
 go_ret
 exact ⟨v8, rfl, HO8.out, HB8.out⟩
end Go.Proofs.YtlccihidedfemaaGreatDoor

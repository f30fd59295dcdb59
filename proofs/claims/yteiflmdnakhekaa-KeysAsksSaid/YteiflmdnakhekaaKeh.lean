/-
  Contracts over this translation: two sets gone through at once: cmp.Compare, firsts, sifted, Join, Both, Less.
-/
import Derived.Test.YteiflmdnakhekaaKef
import Derived.Shelf.RegionOpenPlain
import Derived.Shelf.Abstract
set_option linter.unusedVariables false
namespace Go.Proofs.Yteiflmdnakhekaa
open Go.RowKit
attribute [local go_sem] Oper.semAt_some

theorem isNaN_any (x : ByteArray) (w : World) :
    Calls Try.prog 58 #[.string x] w fun e w' => e = .returned (.bool false) ∧ w = w' := by
  have h : (x.toList == x.toList) = true := by simp
  go_enter Try.func58, Try.ntmps58
  go_wp2
  go_ret
  exact ⟨ret_val (by simp), rfl⟩

def ordI (x y : Txt) : Int := if x < y then -1 else if y < x then 1 else 0
theorem ordI_lt {x y : Txt} (h : x < y) : ordI x y = -1 := if_pos h
theorem ordI_gt {x y : Txt} (h : y < x) : ordI x y = 1 := by rw [ordI, if_neg (t_asymm h), if_pos h]
theorem ordI_eq (x : Txt) : ordI x x = 0 := by rw [ordI, if_neg (t_irrefl x), if_neg (t_irrefl x)]

set_option maxRecDepth 100000 in
theorem Compare_any (x y : ByteArray) (w : World) :
    Calls Try.prog 59 #[.string x, .string y] w fun e w' => e = .returned (.int .i64 (ordI x.data.toList y.data.toList)) ∧ w = w' := by
  have HN := Lib.hid isNaN_any
  by_cases h : x.data.toList < y.data.toList
  · have l1 : Op.bytesLess x.toList y.toList = true := by rw [less_eq]; exact decide_eq_true h
    rw [ordI_lt h]
    clear h
    go_enter Try.func59, Try.ntmps59
    go_wp2_with ((with_reducible refine (HN.out _ _).mono ?_); rintro e w' ⟨rfl, rfl⟩)
    go_ret
    exact ⟨rfl, rfl⟩
  · by_cases h2 : y.data.toList < x.data.toList
    · have l1 : Op.bytesLess x.toList y.toList = false := by rw [less_eq]; exact decide_eq_false h
      have l2 : (x.toList == y.toList) = false := beq_false (fun e => t_irrefl _ (e ▸ h2))
      rw [ordI_gt h2]
      clear h h2
      go_enter Try.func59, Try.ntmps59
      go_wp2_with ((with_reducible refine (HN.out _ _).mono ?_); rintro e w' ⟨rfl, rfl⟩)
      go_ret
      exact ⟨rfl, rfl⟩
    · obtain rfl := str_eq' (t_tri _ _ h h2)
      have l1 : Op.bytesLess x.toList x.toList = false := by rw [less_eq]; exact decide_eq_false h
      have l2 : (x.toList == x.toList) = true := beq_true rfl
      rw [ordI_eq]
      clear h h2
      go_enter Try.func59, Try.ntmps59
      go_wp2_with ((with_reducible refine (HN.out _ _).mono ?_); rintro e w' ⟨rfl, rfl⟩)
      go_ret
      exact ⟨rfl, rfl⟩

def frI : List Txt → List Txt → Int
  | [], _ => 1
  | _ :: _, [] => -1
  | x :: _, y :: _ => ordI x y

set_option maxRecDepth 100000 in
set_option maxHeartbeats 1000000 in
theorem firsts_any (u v : Value) (K L : List ByteArray) (w : World) (hu : IsStrs w u K) (hv : IsStrs w v L) :
    Calls Try.prog 45 #[u, v] w fun e w' => e = .returned (.int .i64 (frI (txts K) (txts L))) ∧ ∃ n, w' = w.drewN n := by
  obtain ⟨hm, a, cap, rfl, _, hc⟩ := hu
  obtain ⟨hm2, a2, cap2, rfl, _, hc2⟩ := hv
  match K, L with
  | [], L =>
    clear hc hc2
    go_enter Try.func45, Try.ntmps45
    go_wp2
    go_ret
    exact ⟨rfl, 0, rfl⟩
  | x :: K, [] =>
    clear hc hc2
    have h0 : (((K.length : Nat) : Int) + 1 == 0) = false := by simp; omega
    go_enter Try.func45, Try.ntmps45
    go_wp2
    go_ret
    exact ⟨rfl, 0, rfl⟩
  | x :: K, y :: L =>
    obtain ⟨b1, o1, rfl, _, g1⟩ := hc (by simp)
    obtain ⟨b2, o2, rfl, _, g2⟩ := hc2 (by simp)
    have q1 := g1 0 (by simp)
    have q2 := g2 0 (by simp)
    simp only [Nat.add_zero, List.getElem_cons_zero] at q1 q2
    clear hc hc2 g1 g2
    have h0 : (((K.length : Nat) : Int) + 1 == 0) = false := by simp; omega
    have h1 : (((L.length : Nat) : Int) + 1 == 0) = false := by simp; omega
    have HC := Lib.hid (fun W => Compare_any x y W)
    go_enter Try.func45, Try.ntmps45
    go_wp2
    go_quiet ((exact Calls.quiet_of_same ((HC.out _).mono fun e w' h => ⟨h.1, h.2.symm⟩)))
    go_wp2
    go_ret
    exact ⟨rfl, _, rfl⟩

/-! ## sifted -/
def lenOf : Value → Nat
  | .slice _ n _ => n
  | _ => 0
theorem IsStrs.lenOf {w : World} {v : Value} {L : List ByteArray} (h : IsStrs w v L) : lenOf v = L.length := by
  obtain ⟨_, a, cap, rfl, _⟩ := h; rfl
/-- What the loop of sifted holds. -/
structure SiftTo (k : Bool → Bool → Bool) (A B A' B' out : List Txt) : Prop where
  len : out.length + A'.length + B'.length ≤ A.length + B.length
  goes : out ++ sift k A' B' = sift k A B
theorem opt_len (b : Bool) (x : Txt) : (opt b x).length ≤ 1 := by cases b <;> simp [opt]
theorem SiftTo.one {k : Bool → Bool → Bool} {A B A' out : List Txt} {x : Txt} (h : SiftTo k A B (x :: A') [] out) : SiftTo k A B A' [] (out ++ opt (k true false) x) :=
  ⟨by have := h.len; have := opt_len (k true false) x; simp at *; omega, by have := h.goes; rw [sift] at this; rw [List.append_assoc]; exact this⟩
theorem SiftTo.two {k : Bool → Bool → Bool} {A B B' out : List Txt} {y : Txt} (h : SiftTo k A B [] (y :: B') out) : SiftTo k A B [] B' (out ++ opt (k false true) y) :=
  ⟨by have := h.len; have := opt_len (k false true) y; simp at *; omega, by have := h.goes; rw [sift] at this; rw [List.append_assoc]; exact this⟩
theorem SiftTo.less {k : Bool → Bool → Bool} {A B A' B' out : List Txt} {x y : Txt} (h : SiftTo k A B (x :: A') (y :: B') out) (c : x < y) : SiftTo k A B A' (y :: B') (out ++ opt (k true false) x) :=
  ⟨by have := h.len; have := opt_len (k true false) x; simp at *; omega, by have := h.goes; rw [sift, if_pos c] at this; rw [List.append_assoc]; exact this⟩
theorem SiftTo.more {k : Bool → Bool → Bool} {A B A' B' out : List Txt} {x y : Txt} (h : SiftTo k A B (x :: A') (y :: B') out) (c : y < x) : SiftTo k A B (x :: A') B' (out ++ opt (k false true) y) :=
  ⟨by have := h.len; have := opt_len (k false true) y; simp at *; omega, by have := h.goes; rw [sift, if_neg (t_asymm c), if_pos c] at this; rw [List.append_assoc]; exact this⟩
theorem SiftTo.same {k : Bool → Bool → Bool} {A B A' B' out : List Txt} {x y : Txt} (h : SiftTo k A B (x :: A') (y :: B') out) (c : x = y) : SiftTo k A B A' B' (out ++ opt (k true true) y) :=
  ⟨by have := h.len; have := opt_len (k true true) y; simp at *; omega, by subst c; have := h.goes; rw [sift, if_neg (t_irrefl _), if_neg (t_irrefl _)] at this; rw [List.append_assoc]; exact this⟩
theorem SiftTo.done {k : Bool → Bool → Bool} {A B out : List Txt} (h : SiftTo k A B [] [] out) : out = sift k A B := by have := h.goes; rw [sift, List.append_nil] at this; exact this
theorem cap_nil {w : World} {a : Option Addr} {n cap : Nat} (h : IsStrs w (.slice a n cap) []) : n = 0 := by
  obtain ⟨_, _, _, e, _⟩ := h
  cases e; rfl
theorem strs_nil {w : World} {v : Value} (h : IsStrs w v []) : ∃ a cap, v = .slice a 0 cap := by
  obtain ⟨_, a, cap, e, _⟩ := h
  exact ⟨a, cap, e⟩
/-- What the head of a slice of strings is. -/
theorem strs_cons {w : World} {v : Value} {x : ByteArray} {L : List ByteArray} (h : IsStrs w v (x :: L)) : ∃ b off cap, v = .slice (some ⟨b, off, none⟩) (L.length + 1) cap ∧ w.cell? ⟨b, off, none⟩ = some (.string x) := by
  obtain ⟨_, a, cap, rfl, _, hc⟩ := h
  obtain ⟨b, off, rfl, _, g⟩ := hc (by simp)
  exact ⟨b, off, cap, rfl, by have := g 0 (by simp); simpa using this⟩
theorem cell_drewN (w : World) (n : Nat) (p : Addr) : (w.drewN n).cell? p = w.cell? p := by
  induction n generalizing w with
  | zero => rfl
  | succ n ih => exact ih w.drew


set_option maxRecDepth 100000 in
set_option maxHeartbeats 8000000 in
theorem sifted_any (fk : FuncId) (hE : Enters Try.prog fk) (k : Bool → Bool → Bool)
    (hK : ∀ x y W, Calls Try.prog fk #[.bool x, .bool y] W fun e w' => e = .returned (.bool (k x y)) ∧ W = w')
    (u v : Value) (K L : List ByteArray) (w : World) (hu : IsStrs w u K) (hv : IsStrs w v L) (hlen : K.length + L.length ≤ 900000) :
    Calls Try.prog 32 #[u, v, .func (.func fk) #[] #[]] w (RetStrs w (sift k (txts K) (txts L))) := by
  unfold Enters at hE
  have HK := Lib.hid hK
  have HU := Lib.hid hu
  have HV := Lib.hid hv
  clear hu hv hK
  go_enter Try.func32, Try.ntmps32
  go_wp2
  go_loopw [0, 1, 7] (fun a b o wr => ∃ (A B : List ByteArray) (out : List Txt), IsStrs w a A ∧ IsStrs w b B ∧ SiftTo k (txts K) (txts L) (txts A) (txts B) out ∧ OwnTxt w wr o out ∧ Below w.heap.size w wr) (fun a b o _ => lenOf a + lenOf b)
  case atStart => exact ⟨K, L, [], HU.out, HV.out, ⟨by simp, by simp⟩, ownTxt_nil _, Below.refl _ _⟩
  case round =>
    obtain ⟨A, B, out, hA, hB, hS, hO, hBl⟩ := hrel
    clear HU HV
    have hol : out.length ≤ 1000000 := by have := hS.len; simp only [txts_len] at this; omega
    have HO := Lib.hid hO
    clear hO
    match A, B with
    | [], [] =>
      obtain ⟨a1, c1, rfl⟩ := strs_nil hA
      obtain ⟨a2, c2, rfl⟩ := strs_nil hB
      have HS := Lib.hid hS.done
      clear hS hA hB
      go_wp2
      go_ret
      exact ⟨u7, rfl, by rw [← HS.out]; exact HO.out.strs, hBl⟩
    | x :: A, [] =>
      have hAr := hA.stays hBl; have hBr := hB.stays hBl
      obtain ⟨va', hta, hA'⟩ := strs_tail hA
      have CF := firsts_any _ _ _ _ wr hAr hBr
      rw [show frI (txts (x :: A)) (txts []) = (-1 : Int) from rfl] at CF
      have hS' := hS.one
      obtain ⟨b1, o1, c1, rfl, q1⟩ := strs_cons hAr
      obtain ⟨a2, c2, rfl⟩ := strs_nil hB
      have HF := Lib.hid CF
      have HA := Lib.hid hA'; have HB := Lib.hid hB
      have HSS := Lib.hid hS'
      have LA := Lib.hid hA'.lenOf
      clear hS hS' CF hA hB hAr hBr hA'
      have g1 : decide ((0 : Int) < ((A.length + 1 : Nat) : Int)) = true := by simp
      have HKK := Lib.hid (HK.out true false)
      cases hk : k true false with
      | true =>
        rw [hk] at HKK
        rw [hk, opt] at HSS
        go_wp2_with ((with_reducible refine HF.out.mono ?_); rintro e w1 ⟨rfl, nf, rfl⟩)
        go_quiet (fail)
        go_wp2
        refine (HKK.out _).mono ?_
        rintro e w2 ⟨rfl, hw2⟩
        have hbb : Below wr.heap.size wr w2 := by rw [← hw2]; exact below_drewN (Below.refl _ _) _
        have hB2 := below_step hBl hbb
        clear hw2
        have HO2 := Lib.hid (HO.out.stays hbb)
        go_wp2_with (at_builtin; refine wpList_append_txt rfl _ _ rfl HO2.out hB2 rfl rfl hol ?_)
        intro v' w3 hown' hb3
        go_wp2
        go_roundw
        case rel => exact ⟨A, [], out ++ [x.data.toList], HA.out, HB.out, by have := HSS.out; simpa [txts] using this, hown', hb3⟩
        case measure => (have := LA.out; simp [lenOf] at *; omega)
      | false =>
        rw [hk] at HKK
        rw [hk, opt] at HSS
        go_wp2_with ((with_reducible refine HF.out.mono ?_); rintro e w1 ⟨rfl, nf, rfl⟩)
        go_quiet (fail)
        go_wp2
        refine (HKK.out _).mono ?_
        rintro e w2 ⟨rfl, hw2⟩
        have hbb : Below wr.heap.size wr w2 := by rw [← hw2]; exact below_drewN (Below.refl _ _) _
        have hB2 := below_step hBl hbb
        clear hw2
        go_wp2
        go_roundw
        case rel => exact ⟨A, [], out, HA.out, HB.out, by have := HSS.out; simpa [txts] using this, HO.out.stays hbb, hB2⟩
        case measure => (have := LA.out; simp [lenOf] at *; omega)
    | [], y :: B =>
      have hAr := hA.stays hBl; have hBr := hB.stays hBl
      obtain ⟨vb', htb, hB'⟩ := strs_tail hB
      have CF := firsts_any _ _ _ _ wr hAr hBr
      rw [show frI (txts []) (txts (y :: B)) = (1 : Int) from rfl] at CF
      have hS' := hS.two
      obtain ⟨a1, c1, rfl⟩ := strs_nil hA
      obtain ⟨b2, o2, c2, rfl, q2⟩ := strs_cons hBr
      have HF := Lib.hid CF
      have HA := Lib.hid hA; have HB := Lib.hid hB'
      have HSS := Lib.hid hS'
      have LB := Lib.hid hB'.lenOf
      clear hS hS' CF hA hB hAr hBr hB'
      have g2 : decide ((0 : Int) < ((B.length + 1 : Nat) : Int)) = true := by simp
      have HKK := Lib.hid (HK.out false true)
      cases hk : k false true with
      | true =>
        rw [hk] at HKK
        rw [hk, opt] at HSS
        go_wp2_with ((with_reducible refine HF.out.mono ?_); rintro e w1 ⟨rfl, nf, rfl⟩)
        go_quiet (fail)
        go_wp2
        refine (HKK.out _).mono ?_
        rintro e w2 ⟨rfl, hw2⟩
        have hbb : Below wr.heap.size wr w2 := by rw [← hw2]; exact below_drewN (Below.refl _ _) _
        have hB2 := below_step hBl hbb
        clear hw2
        have HO2 := Lib.hid (HO.out.stays hbb)
        go_wp2_with (at_builtin; refine wpList_append_txt rfl _ _ rfl HO2.out hB2 rfl rfl hol ?_)
        intro v' w3 hown' hb3
        go_wp2
        go_roundw
        case rel => exact ⟨[], B, out ++ [y.data.toList], HA.out, HB.out, by have := HSS.out; simpa [txts] using this, hown', hb3⟩
        case measure => (have := LB.out; simp [lenOf] at *; omega)
      | false =>
        rw [hk] at HKK
        rw [hk, opt] at HSS
        go_wp2_with ((with_reducible refine HF.out.mono ?_); rintro e w1 ⟨rfl, nf, rfl⟩)
        go_quiet (fail)
        go_wp2
        refine (HKK.out _).mono ?_
        rintro e w2 ⟨rfl, hw2⟩
        have hbb : Below wr.heap.size wr w2 := by rw [← hw2]; exact below_drewN (Below.refl _ _) _
        have hB2 := below_step hBl hbb
        clear hw2
        go_wp2
        go_roundw
        case rel => exact ⟨[], B, out, HA.out, HB.out, by have := HSS.out; simpa [txts] using this, HO.out.stays hbb, hB2⟩
        case measure => (have := LB.out; simp [lenOf] at *; omega)
    | x :: A, y :: B =>
      by_cases c : x.data.toList < y.data.toList
      · have hAr := hA.stays hBl; have hBr := hB.stays hBl
        obtain ⟨va', hta, hA'⟩ := strs_tail hA
        have CF := firsts_any _ _ _ _ wr hAr hBr
        rw [show frI (txts (x :: A)) (txts (y :: B)) = (-1 : Int) from ordI_lt c] at CF
        have hS' := hS.less c
        obtain ⟨b1, o1, c1, rfl, q1⟩ := strs_cons hAr
        obtain ⟨b2, o2, c2, rfl, q2⟩ := strs_cons hBr
        have HF := Lib.hid CF
        have HA := Lib.hid hA'; have HB := Lib.hid hB
        have HSS := Lib.hid hS'
        have LA := Lib.hid hA'.lenOf
        clear hS hS' CF hA hB hAr hBr hA' c
        have g1 : decide ((0 : Int) < ((A.length + 1 : Nat) : Int)) = true := by simp
        have g2 : decide ((0 : Int) < ((B.length + 1 : Nat) : Int)) = true := by simp
        have HKK := Lib.hid (HK.out true false)
        cases hk : k true false with
        | true =>
          rw [hk] at HKK
          rw [hk, opt] at HSS
          go_wp2_with ((with_reducible refine HF.out.mono ?_); rintro e w1 ⟨rfl, nf, rfl⟩)
          go_quiet (fail)
          go_wp2
          refine (HKK.out _).mono ?_
          rintro e w2 ⟨rfl, hw2⟩
          have hbb : Below wr.heap.size wr w2 := by rw [← hw2]; exact below_drewN (Below.refl _ _) _
          have hB2 := below_step hBl hbb
          clear hw2
          have HO2 := Lib.hid (HO.out.stays hbb)
          go_wp2_with (at_builtin; refine wpList_append_txt rfl _ _ rfl HO2.out hB2 rfl rfl hol ?_)
          intro v' w3 hown' hb3
          go_wp2
          go_roundw
          case rel => exact ⟨A, (y :: B), out ++ [x.data.toList], HA.out, HB.out, by have := HSS.out; simpa [txts] using this, hown', hb3⟩
          case measure => (have := LA.out; simp [lenOf] at *; omega)
        | false =>
          rw [hk] at HKK
          rw [hk, opt] at HSS
          go_wp2_with ((with_reducible refine HF.out.mono ?_); rintro e w1 ⟨rfl, nf, rfl⟩)
          go_quiet (fail)
          go_wp2
          refine (HKK.out _).mono ?_
          rintro e w2 ⟨rfl, hw2⟩
          have hbb : Below wr.heap.size wr w2 := by rw [← hw2]; exact below_drewN (Below.refl _ _) _
          have hB2 := below_step hBl hbb
          clear hw2
          go_wp2
          go_roundw
          case rel => exact ⟨A, (y :: B), out, HA.out, HB.out, by have := HSS.out; simpa [txts] using this, HO.out.stays hbb, hB2⟩
          case measure => (have := LA.out; simp [lenOf] at *; omega)
      by_cases d : y.data.toList < x.data.toList
      · have hAr := hA.stays hBl; have hBr := hB.stays hBl
        obtain ⟨vb', htb, hB'⟩ := strs_tail hB
        have CF := firsts_any _ _ _ _ wr hAr hBr
        rw [show frI (txts (x :: A)) (txts (y :: B)) = (1 : Int) from ordI_gt d] at CF
        have hS' := hS.more d
        obtain ⟨b1, o1, c1, rfl, q1⟩ := strs_cons hAr
        obtain ⟨b2, o2, c2, rfl, q2⟩ := strs_cons hBr
        have HF := Lib.hid CF
        have HA := Lib.hid hA; have HB := Lib.hid hB'
        have HSS := Lib.hid hS'
        have LB := Lib.hid hB'.lenOf
        clear hS hS' CF hA hB hAr hBr hB' c d
        have g1 : decide ((0 : Int) < ((A.length + 1 : Nat) : Int)) = true := by simp
        have g2 : decide ((0 : Int) < ((B.length + 1 : Nat) : Int)) = true := by simp
        have HKK := Lib.hid (HK.out false true)
        cases hk : k false true with
        | true =>
          rw [hk] at HKK
          rw [hk, opt] at HSS
          go_wp2_with ((with_reducible refine HF.out.mono ?_); rintro e w1 ⟨rfl, nf, rfl⟩)
          go_quiet (fail)
          go_wp2
          refine (HKK.out _).mono ?_
          rintro e w2 ⟨rfl, hw2⟩
          have hbb : Below wr.heap.size wr w2 := by rw [← hw2]; exact below_drewN (Below.refl _ _) _
          have hB2 := below_step hBl hbb
          clear hw2
          have HO2 := Lib.hid (HO.out.stays hbb)
          go_wp2_with (at_builtin; refine wpList_append_txt rfl _ _ rfl HO2.out hB2 rfl rfl hol ?_)
          intro v' w3 hown' hb3
          go_wp2
          go_roundw
          case rel => exact ⟨(x :: A), B, out ++ [y.data.toList], HA.out, HB.out, by have := HSS.out; simpa [txts] using this, hown', hb3⟩
          case measure => (have := LB.out; simp [lenOf] at *; omega)
        | false =>
          rw [hk] at HKK
          rw [hk, opt] at HSS
          go_wp2_with ((with_reducible refine HF.out.mono ?_); rintro e w1 ⟨rfl, nf, rfl⟩)
          go_quiet (fail)
          go_wp2
          refine (HKK.out _).mono ?_
          rintro e w2 ⟨rfl, hw2⟩
          have hbb : Below wr.heap.size wr w2 := by rw [← hw2]; exact below_drewN (Below.refl _ _) _
          have hB2 := below_step hBl hbb
          clear hw2
          go_wp2
          go_roundw
          case rel => exact ⟨(x :: A), B, out, HA.out, HB.out, by have := HSS.out; simpa [txts] using this, HO.out.stays hbb, hB2⟩
          case measure => (have := LB.out; simp [lenOf] at *; omega)
      · obtain rfl : x = y := str_eq' (t_tri _ _ c d)
        have hAr := hA.stays hBl; have hBr := hB.stays hBl
        obtain ⟨va', hta, hA'⟩ := strs_tail hA
        obtain ⟨vb', htb, hB'⟩ := strs_tail hB
        have CF := firsts_any _ _ _ _ wr hAr hBr
        rw [show frI (txts (x :: A)) (txts (x :: B)) = (0 : Int) from ordI_eq _] at CF
        have hS' := hS.same rfl
        obtain ⟨b1, o1, c1, rfl, q1⟩ := strs_cons hAr
        obtain ⟨b2, o2, c2, rfl, q2⟩ := strs_cons hBr
        have HF := Lib.hid CF
        have HA := Lib.hid hA'; have HB := Lib.hid hB'
        have HSS := Lib.hid hS'
        have LA := Lib.hid hA'.lenOf
        have LB := Lib.hid hB'.lenOf
        clear hS hS' CF hA hB hAr hBr hA' hB' c d
        have g1 : decide ((0 : Int) < ((A.length + 1 : Nat) : Int)) = true := by simp
        have g2 : decide ((0 : Int) < ((B.length + 1 : Nat) : Int)) = true := by simp
        have HKK := Lib.hid (HK.out true true)
        cases hk : k true true with
        | true =>
          rw [hk] at HKK
          rw [hk, opt] at HSS
          go_wp2_with ((with_reducible refine HF.out.mono ?_); rintro e w1 ⟨rfl, nf, rfl⟩)
          go_quiet (fail)
          go_wp2
          go_quiet (fail)
          go_wp2
          refine (HKK.out _).mono ?_
          rintro e w2 ⟨rfl, hw2⟩
          have hbb : Below wr.heap.size wr w2 := by rw [← hw2]; exact below_drewN (Below.refl _ _) _
          have hB2 := below_step hBl hbb
          clear hw2
          have HO2 := Lib.hid (HO.out.stays hbb)
          go_wp2_with (at_builtin; refine wpList_append_txt rfl _ _ rfl HO2.out hB2 rfl rfl hol ?_)
          intro v' w3 hown' hb3
          go_wp2
          go_roundw
          case rel => exact ⟨A, B, out ++ [x.data.toList], HA.out, HB.out, by have := HSS.out; simpa [txts] using this, hown', hb3⟩
          case measure => (have := LA.out; have := LB.out; simp [lenOf] at *; omega)
        | false =>
          rw [hk] at HKK
          rw [hk, opt] at HSS
          go_wp2_with ((with_reducible refine HF.out.mono ?_); rintro e w1 ⟨rfl, nf, rfl⟩)
          go_quiet (fail)
          go_wp2
          go_quiet (fail)
          go_wp2
          refine (HKK.out _).mono ?_
          rintro e w2 ⟨rfl, hw2⟩
          have hbb : Below wr.heap.size wr w2 := by rw [← hw2]; exact below_drewN (Below.refl _ _) _
          have hB2 := below_step hBl hbb
          clear hw2
          go_wp2
          go_roundw
          case rel => exact ⟨A, B, out, HA.out, HB.out, by have := HSS.out; simpa [txts] using this, HO.out.stays hbb, hB2⟩
          case measure => (have := LA.out; have := LB.out; simp [lenOf] at *; omega)

theorem join1_any (x y : Bool) (W : World) : Calls Try.prog 33 #[.bool x, .bool y] W fun e w' => e = .returned (.bool (kOr x y)) ∧ W = w' := by
  cases x <;> cases y <;> (go_enter Try.func33, Try.ntmps33; go_wp2; go_ret; exact ⟨rfl, rfl⟩)
theorem both1_any (x y : Bool) (W : World) : Calls Try.prog 34 #[.bool x, .bool y] W fun e w' => e = .returned (.bool (kAnd x y)) ∧ W = w' := by
  cases x <;> cases y <;> (go_enter Try.func34, Try.ntmps34; go_wp2; go_ret; exact ⟨rfl, rfl⟩)
theorem less1_any (x y : Bool) (W : World) : Calls Try.prog 36 #[.bool x, .bool y] W fun e w' => e = .returned (.bool (kLess x y)) ∧ W = w' := by
  cases x <;> cases y <;> (go_enter Try.func36, Try.ntmps36; go_wp2; go_ret; exact ⟨rfl, rfl⟩)
theorem Join_any (u v : Value) (K L : List ByteArray) (w : World) (hu : IsStrs w u K) (hv : IsStrs w v L) (hlen : K.length + L.length ≤ 900000) :
    Calls Try.prog 17 #[u, v] w (RetStrs w (sift kOr (txts K) (txts L))) := by
  have C := Lib.hid (sifted_any 33 (enters_of Try.func33 (by kernel_rfl) rfl) kOr join1_any u v K L w hu hv hlen)
  go_enter Try.func17, Try.ntmps17
  go_wp2_with fail
  refine C.out.mono ?_
  rintro e w1 ⟨v1, rfl, hv1, hb1⟩
  have HV1 := Lib.hid hv1; clear hv1
  go_wp2
  go_ret
  exact ⟨_, rfl, HV1.out, hb1⟩
theorem Both_any (u v : Value) (K L : List ByteArray) (w : World) (hu : IsStrs w u K) (hv : IsStrs w v L) (hlen : K.length + L.length ≤ 900000) :
    Calls Try.prog 19 #[u, v] w (RetStrs w (sift kAnd (txts K) (txts L))) := by
  have C := Lib.hid (sifted_any 34 (enters_of Try.func34 (by kernel_rfl) rfl) kAnd both1_any u v K L w hu hv hlen)
  go_enter Try.func19, Try.ntmps19
  go_wp2_with fail
  refine C.out.mono ?_
  rintro e w1 ⟨v1, rfl, hv1, hb1⟩
  have HV1 := Lib.hid hv1; clear hv1
  go_wp2
  go_ret
  exact ⟨_, rfl, HV1.out, hb1⟩
theorem Less_any (u v : Value) (K L : List ByteArray) (w : World) (hu : IsStrs w u K) (hv : IsStrs w v L) (hlen : K.length + L.length ≤ 900000) :
    Calls Try.prog 21 #[u, v] w (RetStrs w (sift kLess (txts K) (txts L))) := by
  have C := Lib.hid (sifted_any 36 (enters_of Try.func36 (by kernel_rfl) rfl) kLess less1_any u v K L w hu hv hlen)
  go_enter Try.func21, Try.ntmps21
  go_wp2_with fail
  refine C.out.mono ?_
  rintro e w1 ⟨v1, rfl, hv1, hb1⟩
  have HV1 := Lib.hid hv1; clear hv1
  go_wp2
  go_ret
  exact ⟨_, rfl, HV1.out, hb1⟩
end Go.Proofs.Yteiflmdnakhekaa

/-
  Two trees' objects, and the calls of laws on their roots: each answers, and tells the counts.
-/
import Derived.Test.YtokknppjeckppaaGreatDoorYaCuc
set_option linter.unusedVariables false
namespace Go.Proofs.YtokknppjeckppaaGreatDoor
open Go.RowKit
structure TwoO (O : List Ob) (ka kb : Txt) : Prop where
 ord : OrdO O
 len : O.length ≤ 140000
 size : ∀ y ∈ O, y.r.size ≤ 1000000
 a32 : ka.length = 32
 b32 : kb.length = 32
 hasA : (getO O ka).isSome = true
 hasB : (getO O kb).isSome = true
def Ours (ka kb : Txt) (R : List Txt) : Prop := R.length ≤ 10 ∧ ∀ r ∈ R, r = ka ∨ r = kb
section
variable {O : List Ob} {ka kb : Txt} {R : List Txt}
theorem TwoO.whole (h : TwoO O ka kb) (hR : Ours ka kb R) : WholeO O R := h.ord.whole fun r hr _ => by
 rcases hR.2 r hr with rfl | rfl
 ·exact h.hasA
 ·exact h.hasB
theorem TwoO.inU (h : TwoO O ka kb) (hR : Ours ka kb R) : ∀ t, ReachO O R t → t ∈ O.map Ob.t := fun t ht => whole_in h.ord.fit.1 (h.whole hR) ht
theorem TwoO.u32 (h : TwoO O ka kb) : ∀ t ∈ O.map Ob.t, t.length = 32 := fun t ht => by
 obtain ⟨y, hy, rfl⟩ := List.mem_map.1 ht
 exact h.ord.fit.2 y hy
theorem TwoO.ulen (h : TwoO O ka kb) : (O.map Ob.t).length ≤ 140000 := by rw [List.length_map]; exact h.len
theorem TwoO.k32 (h : TwoO O ka kb) {k : Txt} (hk : k = ka ∨ k = kb) : k.length = 32 := by
 rcases hk with rfl | rfl
 ·exact h.a32
 ·exact h.b32
theorem TwoO.max (h : TwoO O ka kb) (hR : Ours ka kb R) {C : List Ct} (hC : CountsOf O R C) : ∀ x ∈ C, x.n ≤ 1000000 := fun x hx => by
 have h1 := countsOf_max hC (h.inU hR) x hx
 have h2 := h.ulen
 have h3 := hR.1
 omega
theorem ours_one {k : Txt} (hk : k = ka ∨ k = kb) : Ours ka kb [k] := ⟨by simp, fun r hr => by rw [List.mem_singleton.1 hr]; exact hk⟩
end
theorem two_ok {m a b x : Nat} {I J : List It} (hI : FewF m a b x I) (hJ : FewF m a b x J) : TwoO (bothO (objsT (cutN m b x) I) (objsT (cutN m b x) J)) (keyN (topT (cutN m b x) I)) (keyN (topT (cutN m b x) J)) := by
 have f1 := objs_fit (cutN m b x) I
 have f2 := objs_fit (cutN m b x) J
 have has : ∀ {K : List It}, FewF m a b x K → (getO (objsT (cutN m b x) K) (keyN (topT (cutN m b x) K))).isSome = true := fun {K} h => by
  obtain ⟨z, hz, e⟩ := objs_key h.rdy (topT_mem (cutN m b x) K)
  rw [(getO_some h.rise).2 ⟨hz, e⟩]; rfl
 exact {
  ord := ord_both (ord_tree hI.rdy) (ord_tree hJ.rdy)
  len := by have h1 := both_len (objsT (cutN m b x) J) (objsT (cutN m b x) I); have h2 := hI.many; have h3 := hJ.many; omega
  size := fun y hy => by
   rcases both_node hy with h | h
   ·exact Nat.le_trans (hI.bytes y h) (by decide)
   ·exact Nat.le_trans (hJ.bytes y h) (by decide)
  a32 := keyN_len (seqT_fit hI.rdy _ (topT_mem _ _))
  b32 := keyN_len (seqT_fit hJ.rdy _ (topT_mem _ _))
  hasA := both_has f1 f2 (.inl (has hI))
  hasB := both_has f1 f2 (.inr (has hJ)) }
def RetC (O : List Ob) (R : List Txt) (w : World) (e : Ending) (w' : World) : Prop := ∃ v C, e = .returned (.tuple #[v, .bool true]) ∧ IsCts w' v C ∧ CountsOf O R C ∧ Below w.heap.size w w'
def RetE (O : List Ob) (R : List Txt) (w : World) (e : Ending) (w' : World) : Prop := ∃ v C, e = .returned (.tuple #[v, .int .i64 0]) ∧ IsCts w' v C ∧ CountsOf O R C ∧ Below w.heap.size w w'
section
variable {O : List Ob} {ka kb : Txt}
theorem RetOf.ours {R : List Txt} {w w' : World} {e : Ending} (h : TwoO O ka kb) (hR : Ours ka kb R) (hr : RetOf O R w e w') : RetC O R w e w' := by
 obtain ⟨v, C, b, rfl, ho, hb, _, hc, hw⟩ := hr
 have hb2 : b = true := hb.2 (h.whole hR)
 subst hb2
 exact ⟨v, C, rfl, ho.is, hc rfl, hw⟩
theorem pOf_ours (h : TwoO O ka kb) {vO fv : Value} {F : List ByteArray} {w : World} (ho : IsObs w vO O) (hT : ErrT w) (hf : IsStrs w fv F) (hR : Ours ka kb (txts F)) : Calls Tryz.prog 10 #[vO, fv] w (RetC O (txts F) w) :=
 (pOf_any vO fv O F w ho h.ord.fit.1 (Nat.le_trans h.len (by decide)) h.size hT hf (by have := hR.1; rw [txts_len] at this; omega) _ (h.inU hR) h.u32 (Nat.le_trans h.ulen (by decide))).mono fun e w' hr => RetOf.ours h hR hr
theorem rOf_ours (h : TwoO O ka kb) {vO fv : Value} {F : List ByteArray} {w : World} (ho : IsObs w vO O) (hf : IsStrs w fv F) (hR : Ours ka kb (txts F)) : Calls Tryz.prog 11 #[vO, fv] w (RetC O (txts F) w) :=
 (rOf_any vO fv O F w ho h.ord.fit.1 h.size hf (by have := hR.1; rw [txts_len] at this; omega) _ (h.inU hR) (Nat.le_trans h.ulen (by decide))).mono fun e w' hr => RetOf.ours h hR hr
theorem pPlus_ours (h : TwoO O ka kb) {vc vO : Value} {C : List Ct} {k : ByteArray} {w : World} {R R' : List Txt} (ho : IsObs w vO O) (hT : ErrT w) (hc : IsCts w vc C) (hC : CountsOf O R C) (hR : Ours ka kb R) (hk : k.data.toList = ka ∨ k.data.toList = kb) (hO : OneMore R R' k.data.toList) :
  Calls Tryz.prog 17 #[vc, vO, .string k] w (RetE O R' w) := by
 have hk1 := ours_one hk
 refine (pPlus_any vc vO C O k w ho h.ord.fit.1 (Nat.le_trans h.len (by decide)) h.size hT hc hC.1 (fun x hx => Int.le_trans (h.max hR hC x hx) (by decide)) (O.map Ob.t) (fun x hx => h.inU hR _ ((countsOf_mem hC).1 (List.mem_map.2 ⟨x, hx, rfl⟩))) (h.inU hk1) h.u32 (Nat.le_trans h.ulen (by decide))).mono ?_
 rintro e w' ⟨v', C', ev, rfl, ho', hp, hb⟩
 obtain ⟨rfl, hc'⟩ := plusRes_counts hC hO (h.k32 hk) (h.whole hk1) hp
 exact ⟨v', C', rfl, ho'.is, hc', hb⟩
theorem minus_pre (h : TwoO O ka kb) {C : List Ct} {R : List Txt} (hC : CountsOf O R C) (hR : Ours ka kb R) : C.length ≤ 800000 := by
 have := countsOf_len hC (h.inU hR)
 have := h.ulen
 omega
theorem pMinus_ours (h : TwoO O ka kb) {vc vO : Value} {C : List Ct} {k : ByteArray} {w : World} {R R' : List Txt} (ho : IsObs w vO O) (hT : ErrT w) (hc : IsCts w vc C) (hC : CountsOf O R' C) (hR : Ours ka kb R') (hk : k.data.toList = ka ∨ k.data.toList = kb) (hO : OneMore R R' k.data.toList) :
  Calls Tryz.prog 19 #[vc, vO, .string k] w (RetE O R w) := by
 refine (pMinus_any vc vO C O k w ho h.ord.fit.1 (Nat.le_trans h.len (by decide)) h.size hT hc hC.1 (fun x hx => Int.le_trans (h.max hR hC x hx) (by decide)) (countsOf_32 hC) (minus_pre h hC hR)).mono ?_
 rintro e w' ⟨v', C', ev, rfl, ho', hp, hb⟩
 obtain ⟨rfl, hc'⟩ := minusRes_counts hC hO (h.k32 hk) h.ord.noRing hp
 exact ⟨v', C', rfl, ho'.is, hc', hb⟩
theorem pMinus_none (h : TwoO O ka kb) {vc vO : Value} {k : ByteArray} {w : World} (ho : IsObs w vO O) (hT : ErrT w) (hc : IsCts w vc []) :
  Calls Tryz.prog 19 #[vc, vO, .string k] w fun e w' => ∃ v', e = .returned (.tuple #[v', .int .i64 5]) ∧ IsCts w' v' [] ∧ Below w.heap.size w w' := by
 refine (pMinus_any vc vO [] O k w ho h.ord.fit.1 (Nat.le_trans h.len (by decide)) h.size hT hc ⟨List.Pairwise.nil, fun x hx => (by cases hx)⟩ (fun x hx => (by cases hx)) (fun x hx => (by cases hx)) (by simp)).mono ?_
 rintro e w' ⟨v', C', ev, rfl, ho', hp, hb⟩
 rcases hp with ⟨rfl, rfl, _⟩ | ⟨_, h1, _⟩
 ·exact ⟨v', rfl, ho'.is, hb⟩
 ·exact absurd rfl h1
end
theorem cts_nil_is (w : World) : IsCts w (.slice none 0 0) [] := ⟨Nat.zero_le _, none, 0, rfl, ⟨fun _ => ⟨rfl, rfl⟩, Nat.le_refl _⟩, fun h => absurd h (by simp)⟩
theorem IsCts.len {w : World} {v : Value} {C : List Ct} (h : IsCts w v C) : ∃ a cap, v = .slice a C.length cap := by
 obtain ⟨_, a, cap, hv, _⟩ := h
 exact ⟨a, cap, hv⟩
theorem same_counts {O : List Ob} {R : List Txt} {C D : List Ct} {v u : Value} {w : World} (hv : IsCts w v C) (hu : IsCts w u D) (hC : CountsOf O R C) (hD : CountsOf O R D) :
  Calls Tryz.prog 12 #[v, u] w fun e w' => e = .returned (.bool true) ∧ Below w.heap.size w w' := by
 have := rSameC_any v u C D w hv hu
 rwa [sameC_yes (countsOf_one hC hD)] at this
end Go.Proofs.YtokknppjeckppaaGreatDoor

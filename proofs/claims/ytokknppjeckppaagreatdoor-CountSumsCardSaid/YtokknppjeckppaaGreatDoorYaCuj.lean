/-
  Mathematics of the counts' sum: all counts together are as many as there are roots, and as keys are named by what is reached. Of no program.
-/
import Derived.Test.YtokknppjeckppaaGreatDoorQa5
set_option linter.unusedVariables false
namespace Go.Proofs.YtokknppjeckppaaGreatDoor
theorem count_total {K : List Txt} (hK : K.Nodup) : ∀ {L : List Txt}, (∀ t ∈ L, t ∈ K) → (K.map fun t => L.count t).sum = L.length
 | [], _ => by
  have : ∀ K : List Txt, (K.map fun t => ([] : List Txt).count t).sum = 0 := fun K => by
   induction K with
   | nil => rfl
   | cons x K ih => rw [List.map_cons, List.sum_cons, ih]; rfl
  rw [this]; rfl
 | x :: L, h => by
  have ih := count_total hK (L := L) fun t ht => h t (List.mem_cons_of_mem _ ht)
  have hs : ∀ K : List Txt, (K.map fun t => (x :: L).count t).sum = (K.map fun t => L.count t).sum + K.count x := fun K => by
   induction K with
   | nil => rfl
   | cons y K ih =>
    rw [List.map_cons, List.sum_cons, ih, List.map_cons, List.sum_cons, List.count_cons, List.count_cons]
    by_cases e : x = y
    ·subst e; simp; omega
    ·have e1 : (x == y) = false := by simpa using e
     have e2 : (y == x) = false := by simpa using fun h => e h.symm
     rw [e1, e2]; simp; omega
  rw [hs, ih, List.length_cons, hK.count, if_pos (h x (List.mem_cons_self ..))]
theorem sumT_add (f g : Txt → Nat) : ∀ K : List Txt, (K.map fun t => f t + g t).sum = (K.map f).sum + (K.map g).sum
 | [] => rfl
 | x :: K => by simp only [List.map_cons, List.sum_cons]; rw [sumT_add f g K]; omega
theorem sum_same {f g : Txt → Nat} {K : List Txt} (h : ∀ t ∈ K, f t = g t) : (K.map f).sum = (K.map g).sum := by rw [List.map_congr_left h]
theorem risesT_nodup {L : List Txt} (h : Rises L) : L.Nodup := h.imp fun hlt e => by subst e; exact List.lt_irrefl _ hlt
theorem named_total {O : List Ob} {K : List Txt} (hK : K.Nodup) : ∀ {J : List Txt}, (∀ j ∈ J, ∀ t ∈ kidsO O j, t ∈ K) → (K.map fun t => nmO O J t).sum = (J.map fun j => (kidsL O j).length).sum
 | [], _ => by
  have : ∀ K : List Txt, (K.map fun t => nmO O [] t).sum = 0 := fun K => by
   induction K with
   | nil => rfl
   | cons x K ih => rw [List.map_cons, List.sum_cons, ih]; rfl
  rw [this]; rfl
 | j :: J, h => by
  have ih := named_total hK (J := J) fun i hi => h i (List.mem_cons_of_mem _ hi)
  have hr : Rises (kidsL O j) := (ofL_spec _).1
  have hone : (K.map fun t => nmO O (j :: J) t).sum = (K.map fun t => (kidsL O j).count t + nmO O J t).sum := sum_same fun t _ => by
   unfold nmO
   rw [List.countP_cons, (risesT_nodup hr).count]
   by_cases hm : t ∈ kidsO O j
   ·rw [if_pos (decide_eq_true hm), if_pos (kidsL_mem.2 hm)]; omega
   ·rw [if_neg (by simpa using hm), if_neg fun e => hm (kidsL_mem.1 e)]; omega
  rw [hone, sumT_add, ih, count_total hK fun t ht => h j (List.mem_cons_self ..) t (kidsL_mem.1 ht), List.map_cons, List.sum_cons]
def sumC (C : List Ct) : Int := (C.map Ct.n).sum
noncomputable def kidsS (O : List Ob) (K : List Txt) : Nat := (K.map fun j => (kidsL O j).length).sum
theorem kidsS_step {O : List Ob} {K : List Txt} {i : Nat} (h : i < K.length) : kidsS O (K.take (i + 1)) = kidsS O (K.take i) + (kidsL O K[i]).length := by
 unfold kidsS
 rw [List.take_succ_eq_append_getElem h, List.map_append, List.sum_append]; simp
theorem keysR_step {R : List Txt} {i : Nat} (h : i < R.length) : (keysR (R.take (i + 1))).length = (keysR (R.take i)).length + (if R[i].length = 32 then 1 else 0) := by
 unfold keysR
 rw [List.take_succ_eq_append_getElem h, List.filter_append, List.length_append]
 by_cases e : R[i].length = 32
 ·simp [e]
 ·simp [e]
theorem sumC_step {C : List Ct} {i : Nat} (h : i < C.length) : sumC (C.drop i) = C[i].n + sumC (C.drop (i + 1)) := by
 unfold sumC
 rw [List.drop_eq_getElem_cons h, List.map_cons, List.sum_cons]
theorem sumC_nat {C : List Ct} {f : Txt → Nat} (h : ∀ x ∈ C, x.n = (f x.t : Nat)) : sumC C = ((C.map Ct.t).map f).sum := by
 unfold sumC
 induction C with
 | nil => rfl
 | cons x C ih =>
  rw [List.map_cons, List.sum_cons, ih fun y hy => h y (List.mem_cons_of_mem _ hy), h x (List.mem_cons_self ..)]
  simp
theorem sumC_pos {C : List Ct} (h : ∀ x ∈ C, 1 ≤ x.n) : 0 ≤ sumC C := by
 unfold sumC
 induction C with
 | nil => simp
 | cons x C ih =>
  rw [List.map_cons, List.sum_cons]
  have := ih fun y hy => h y (List.mem_cons_of_mem _ hy)
  have := h x (List.mem_cons_self ..)
  omega
theorem sumC_end (C : List Ct) {k : Nat} (h : C.length ≤ k) : sumC (C.drop k) = 0 := by rw [List.drop_eq_nil_of_le h]; rfl
theorem countsOf_sum {O : List Ob} {R M : List Txt} {C : List Ct} (h : CountsOf O R C) (hM : Rises M) (hm : ∀ t, t ∈ M ↔ ReachO O R t) : C.map Ct.t = M ∧ sumC C = ((keysR R).length + kidsS O M : Nat) := by
 have hrise : Rises (C.map Ct.t) := List.pairwise_map.2 h.1.1
 have hCM : C.map Ct.t = M := rises_ext hrise hM fun t => by rw [countsOf_mem h, hm]
 refine ⟨hCM, ?_⟩
 obtain ⟨hf, A, hA, hn⟩ := h
 have hMn := risesT_nodup hM
 rw [sumC_nat (f := ofF O (keysR R) A) fun x hx => by rw [← hn, nC_mem hf hx], hCM]
 have hAM : ∀ t, nmO O A t = nmO O M t := fun t => count_same _ hA.1 hMn fun s => by rw [hA.2, hm]
 have h1 : (M.map (ofF O (keysR R) A)).sum = (M.map fun t => (keysR R).count t + nmO O M t).sum := sum_same fun t _ => by unfold ofF; rw [hAM]
 rw [h1, sumT_add, count_total hMn fun t ht => (hm t).2 (.start (keysR_mem.1 ht).1 (keysR_mem.1 ht).2), named_total hMn fun j hj t ht => (hm t).2 (.kid ((hm j).1 hj) ht)]
 rfl
end Go.Proofs.YtokknppjeckppaaGreatDoor

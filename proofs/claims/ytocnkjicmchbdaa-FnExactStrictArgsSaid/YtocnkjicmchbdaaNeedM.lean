/-
  NEEDS THAT HOLD, AND THE GREATEST OF THEM, as plain lists: more needs make an expression need more; what is the greatest is one.
-/
import Derived.Test.YtocnkjicmchbdaaNeedS
import Derived.Test.YtocnkjicmchbdaaHead
namespace Go.Proofs.Ytocnkjicmchbdaa
set_option linter.unusedVariables false
set_option linter.unusedSimpArgs false
open Go.RowKit

/-- it has a row for each function, as long as its arity says -/
def FitN (ds : List Df) (need : List (List Bool)) : Prop := need.length = ds.length ∧ ∀ i (h : i < ds.length) (h' : i < need.length), (need[i].length : Int) = ds[i].1
/-- .. and the bodies need what it says -/
def HoldN (ds : List Df) (need : List (List Bool)) : Prop := FitN ds need ∧ ∀ i (h : i < ds.length) (h' : i < need.length) (v : Nat) (hv : v < need[i].length), need[i][v] = true → needB need (v : Int) ds[i].2 = true
/-- so long are its rows, and it says no more -/
def LeR (a b : List Bool) : Prop := a.length = b.length ∧ ∀ v (h : v < a.length) (h' : v < b.length), a[v] = true → b[v] = true
def LeN (a b : List (List Bool)) : Prop := a.length = b.length ∧ ∀ i (h : i < a.length) (h' : i < b.length), LeR a[i] b[i]
theorem LeR.refl (a : List Bool) : LeR a a := ⟨rfl, fun _ _ _ h => h⟩
theorem LeN.refl (a : List (List Bool)) : LeN a a := ⟨rfl, fun _ _ _ => LeR.refl _⟩
theorem LeR.cons {x y : Bool} {a b : List Bool} (h : x = true → y = true) (hl : LeR a b) : LeR (x :: a) (y :: b) := by
  refine ⟨by simp [hl.1], fun v h1 h2 => ?_⟩
  cases v with
  | zero => exact h
  | succ v => exact hl.2 v (by simpa using h1) (by simpa using h2)
theorem callB_mono {a b : List (List Bool)} (h : LeN a b) (n : Int) {x y : List Bool} (hx : LeR x y) (hc : callB a n x = true) : callB b n y = true := by
  unfold callB at hc ⊢
  simp only [Bool.and_eq_true] at hc ⊢
  refine ⟨hc.1, ?_⟩
  by_cases hl : n.toNat < a.length
  · have hl' : n.toNat < b.length := h.1 ▸ hl
    have hr := h.2 _ hl hl'
    rw [List.getElem?_eq_getElem hl] at hc
    rw [List.getElem?_eq_getElem hl']
    simp only [Bool.and_eq_true, decide_eq_true_eq] at hc ⊢
    obtain ⟨-, hc1, hc2⟩ := hc
    refine ⟨by rw [← hr.1, ← hx.1]; exact hc1, ?_⟩
    rw [List.any_eq_true] at hc2
    obtain ⟨p, hp, hpp⟩ := hc2
    obtain ⟨k, hk, rfl⟩ := List.getElem_of_mem hp
    simp only [List.length_zip] at hk
    simp only [List.getElem_zip, Bool.and_eq_true] at hpp
    have h1 := hr.2 k (by omega) (by have := hr.1; omega) hpp.1
    have h2 := hx.2 k (by omega) (by have := hx.1; omega) hpp.2
    exact anyTo_true _ _ k (by have := hr.1; omega) (by have := hx.1; omega) (by rw [← hr.1, ← hx.1]; exact hc1) h1 h2
  · rw [List.getElem?_eq_none (by omega)] at hc
    simp at hc
theorem needG_mono {a b : List (List Bool)} (h : LeN a b) (v : Int) : ∀ (n : Nat) (t : Tr) (x y : List Bool), szT t ≤ n → LeR x y → needG a v t x = true → needG b v t y = true := by
  intro n
  induction n using Nat.strongRecOn with
  | ind n ih =>
    intro t x y hz hx hg
    have hz' : szL t.kids ≤ n := by rw [← szT_eq]; exact hz
    have kid : ∀ k, k ∈ t.kids → ∀ x y, LeR x y → needG a v k x = true → needG b v k y = true := by
      intro k hk x y hxy hg
      obtain ⟨i, hi, rfl⟩ := List.getElem_of_mem hk
      have := szT_lt_szL t.kids i hi
      exact ih _ (by omega) _ x y (Nat.le_refl _) hxy hg
    have kidB : ∀ k, k ∈ t.kids → needB a v k = true → needB b v k = true := fun k hk hg => kid k hk [] [] (LeR.refl _) hg
    match hk : t.kids with
    | [] =>
      rw [needG_leaf hk] at hg ⊢
      split
      · rename_i h1; rw [if_pos h1] at hg; exact hg
      · rename_i h1
        rw [if_neg h1] at hg
        split
        · rename_i h3; rw [if_pos h3] at hg; exact callB_mono h _ hx hg
        · rename_i h3; rw [if_neg h3] at hg; exact hg
    | [p] =>
      rw [needG_one hk] at hg ⊢
      split
      · rename_i h1; rw [if_pos h1] at hg; exact kidB p (by rw [hk]; simp) hg
      · rename_i h1; rw [if_neg h1] at hg; exact hg
    | [p, q] =>
      rw [needG_two hk] at hg ⊢
      split
      · rename_i h1
        rw [if_pos h1] at hg
        exact kid p (by rw [hk]; simp) _ _ (LeR.cons (kidB q (by rw [hk]; simp)) hx) hg
      · rename_i h1
        rw [if_neg h1] at hg
        split
        · rename_i h2
          rw [if_pos h2] at hg
          simp only [Bool.or_eq_true] at hg ⊢
          exact hg.imp (kidB p (by rw [hk]; simp)) (kidB q (by rw [hk]; simp))
        · rename_i h2; rw [if_neg h2] at hg; exact hg
    | [p, q, r] =>
      rw [needG_three hk] at hg ⊢
      split
      · rename_i h1
        rw [if_pos h1] at hg
        simp only [Bool.or_eq_true, Bool.and_eq_true] at hg ⊢
        exact hg.imp (kidB p (by rw [hk]; simp)) fun h => ⟨kidB q (by rw [hk]; simp) h.1, kidB r (by rw [hk]; simp) h.2⟩
      · rename_i h1; rw [if_neg h1] at hg; exact hg
    | p :: q :: r :: s :: l => rw [needG_more hk] at hg; cases hg
theorem needB_mono {a b : List (List Bool)} (h : LeN a b) (v : Int) (t : Tr) (hg : needB a v t = true) : needB b v t = true := needG_mono h v _ t [] [] (Nat.le_refl _) (LeR.refl _) hg

/-- the greatest need that holds -/
def Great (ds : List Df) (g : List (List Bool)) : Prop := HoldN ds g ∧ ∀ h, HoldN ds h → LeN h g
theorem LeR.antisymm {a b : List Bool} (h : LeR a b) (k : LeR b a) : a = b := by
  refine List.ext_getElem h.1 fun i h1 h2 => ?_
  have e1 := h.2 i h1 h2
  have e2 := k.2 i h2 h1
  cases ha : a[i] <;> cases hb : b[i] <;> simp_all
theorem LeN.antisymm {a b : List (List Bool)} (h : LeN a b) (k : LeN b a) : a = b :=
  List.ext_getElem h.1 fun i h1 h2 => (h.2 i h1 h2).antisymm (k.2 i h2 h1)
theorem Great.uniq {ds : List Df} {a b : List (List Bool)} (h : Great ds a) (k : Great ds b) : a = b := (k.2 a h.1).antisymm (h.2 b k.1)

/-- how much is said -/
def trues (l : List Bool) : Nat := (l.filter id).length
def truesN (l : List (List Bool)) : Nat := (l.map trues).sum
theorem trues_set {l : List Bool} : ∀ {v : Nat} (h : v < l.length), l[v] = true → trues (l.set v false) + 1 = trues l := by
  induction l with
  | nil => intro v h; simp at h
  | cons x l ih =>
    intro v h hv
    cases v with
    | zero => simp only [List.getElem_cons_zero] at hv; subst hv; simp [trues]
    | succ v =>
      have := ih (v := v) (by simpa using h) (by simpa using hv)
      cases x <;> simp [trues] at this ⊢ <;> omega
theorem truesN_set {l : List (List Bool)} : ∀ {i : Nat} (h : i < l.length) (r : List Bool), truesN (l.set i r) + trues l[i] = truesN l + trues r := by
  induction l with
  | nil => intro i h; simp at h
  | cons x l ih =>
    intro i h r
    cases i with
    | zero => simp [truesN]; omega
    | succ i =>
      have := ih (i := i) (by simpa using h) r
      simp [truesN] at this ⊢
      omega
/-- what the bodies do not need is said no longer -/
def dropN (need : List (List Bool)) (i v : Nat) : List (List Bool) := need.set i (((need[i]?).getD []).set v false)
theorem dropN_trues {need : List (List Bool)} {i v : Nat} (h : i < need.length) (hv : v < need[i].length) (hb : need[i][v] = true) : truesN (dropN need i v) + 1 = truesN need := by
  unfold dropN
  rw [List.getElem?_eq_getElem h, Option.getD_some]
  have h1 := truesN_set h (need[i].set v false)
  have h2 := trues_set hv hb
  omega
theorem dropN_fit {ds : List Df} {need : List (List Bool)} {i v : Nat} (h : FitN ds need) : FitN ds (dropN need i v) := by
  by_cases hi : i < need.length
  · unfold dropN
    rw [List.getElem?_eq_getElem hi, Option.getD_some]
    refine ⟨by rw [List.length_set]; exact h.1, fun j hj hj' => ?_⟩
    rw [List.getElem_set]
    split
    · rename_i e; subst e; rw [List.length_set]; exact h.2 _ hj hi
    · exact h.2 j hj (by simpa using hj')
  · unfold dropN
    rw [List.set_eq_of_length_le (by omega)]
    exact h
/-- what is greater than every need that holds stays so -/
theorem dropN_great {ds : List Df} {need : List (List Bool)} {i v : Nat} (hf : FitN ds need) (h : ∀ k, HoldN ds k → LeN k need) (hi : i < need.length) (hi' : i < ds.length) (hn : needB need (v : Int) ds[i].2 = false) :
    ∀ k, HoldN ds k → LeN k (dropN need i v) := by
  intro k hk
  have hl := h k hk
  unfold dropN
  rw [List.getElem?_eq_getElem hi, Option.getD_some]
  refine ⟨by rw [List.length_set]; exact hl.1, fun j hj hj' => ?_⟩
  rw [List.getElem_set]
  split
  · rename_i e
    subst e
    have hr := hl.2 i hj hi
    refine ⟨by rw [List.length_set]; exact hr.1, fun u hu hu' => ?_⟩
    rw [List.getElem_set]
    split
    · rename_i e
      subst e
      intro ht
      have := hk.2 i hi' hj v hu ht
      have := needB_mono hl (v : Int) ds[i].2 this
      rw [hn] at this
      cases this
    · exact hr.2 u hu (by simpa using hu')
  · exact hl.2 j hj (by simpa using hj')

/-- everything is said -/
def topN (ds : List Df) : List (List Bool) := ds.map fun d => List.replicate d.1.toNat true
theorem topN_fit {ds : List Df} (h : ∀ d ∈ ds, 0 ≤ d.1) : FitN ds (topN ds) := by
  refine ⟨by simp [topN], fun i h1 h2 => ?_⟩
  have := h _ (List.getElem_mem h1)
  simp only [topN, List.getElem_map, List.length_replicate]
  omega
theorem topN_great {ds : List Df} (h : ∀ d ∈ ds, 0 ≤ d.1) : ∀ k, HoldN ds k → LeN k (topN ds) := by
  intro k hk
  have hf := topN_fit h
  refine ⟨hk.1.1.trans hf.1.symm, fun i h1 h2 => ⟨?_, fun v h3 h4 _ => ?_⟩⟩
  · have e1 := hk.1.2 i (by rw [← hk.1.1]; exact h1) h1
    have e2 := hf.2 i (by rw [← hk.1.1]; exact h1) h2
    omega
  · simp [topN]
/-- what is great and holds is the greatest -/
theorem great_of {ds : List Df} {need : List (List Bool)} (h : HoldN ds need) (hg : ∀ k, HoldN ds k → LeN k need) : Great ds need := ⟨h, hg⟩
theorem exists_great {ds : List Df} (h : ∀ d ∈ ds, 0 ≤ d.1) : ∃ g, Great ds g := by
  have key : ∀ (n : Nat) (need : List (List Bool)), truesN need ≤ n → FitN ds need → (∀ k, HoldN ds k → LeN k need) → ∃ g, Great ds g := by
    intro n
    induction n with
    | zero =>
      intro need hz hf hg
      by_cases hh : HoldN ds need
      · exact ⟨need, hh, hg⟩
      exfalso
      refine hh ⟨hf, fun i h1 h2 v hv hb => ?_⟩
      have := dropN_trues h2 hv hb
      omega
    | succ n ih =>
      intro need hz hf hg
      by_cases hh : HoldN ds need
      · exact ⟨need, hh, hg⟩
      have : ∃ i, ∃ (h1 : i < ds.length) (h2 : i < need.length), ∃ v, ∃ (hv : v < need[i].length), need[i][v] = true ∧ needB need (v : Int) ds[i].2 = false := by
        apply Classical.byContradiction
        intro hno
        refine hh ⟨hf, fun i h1 h2 v hv hb => ?_⟩
        cases hc : needB need (v : Int) ds[i].2 with
        | true => rfl
        | false => exact absurd ⟨i, h1, h2, v, hv, hb, hc⟩ hno
      obtain ⟨i, h1, h2, v, hv, hb, hc⟩ := this
      have e := dropN_trues h2 hv hb
      exact ih (dropN need i v) (by omega) (dropN_fit hf) (dropN_great hf hg h2 h1 hc)
  exact key _ _ (Nat.le_refl _) (topN_fit h) (topN_great h)
open Classical in
/-- the answer of StrictArgs -/
noncomputable def strictA (ds : List Df) : List (List Bool) := if h : progB ds = true ∧ ∃ g, Great ds g then Classical.choose h.2 else []
theorem progB_ar {ds : List Df} (h : progB ds = true) : ∀ d ∈ ds, 0 ≤ d.1 ∧ d.1 ≤ 4 := by
  intro d hd
  unfold progB at h
  simp only [Bool.and_eq_true, decide_eq_true_eq, List.all_eq_true] at h
  have := h.2 d hd
  unfold validB at this
  simp only [Bool.and_eq_true, decide_eq_true_eq] at this
  omega
theorem strictA_no {ds : List Df} (h : progB ds = false) : strictA ds = [] := by unfold strictA; rw [dif_neg]; rw [h]; simp
theorem strictA_great {ds : List Df} (h : progB ds = true) : Great ds (strictA ds) := by
  have he := exists_great fun d hd => (progB_ar h d hd).1
  unfold strictA
  rw [dif_pos ⟨h, he⟩]
  exact Classical.choose_spec he
theorem strictA_of {ds : List Df} {g : List (List Bool)} (h : progB ds = true) (hg : Great ds g) : strictA ds = g := (strictA_great h).uniq hg
theorem progB_body {ds : List Df} (h : progB ds = true) (i : Nat) (hi : i < ds.length) : ShE ds[i].2 := by
  unfold progB at h
  simp only [Bool.and_eq_true, decide_eq_true_eq, List.all_eq_true] at h
  exact ShE.of_valid (h.2 _ (List.getElem_mem hi))
theorem progB_len {ds : List Df} (h : progB ds = true) : ds.length ≤ 6 := by
  unfold progB at h
  simp only [Bool.and_eq_true, decide_eq_true_eq] at h
  exact h.1
open Classical in
/-- the answer of NeedHolds -/
noncomputable def holdsO (ds : List Df) (need : List (List Bool)) : Bool := progB ds && decide (HoldN ds need)
end Go.Proofs.Ytocnkjicmchbdaa

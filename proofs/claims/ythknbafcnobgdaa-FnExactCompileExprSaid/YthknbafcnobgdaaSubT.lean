/-
  REPLACING VARIABLES, plainly: the tree, its size, its variables. No program is named here.
-/
import Derived.Test.YthknbafcnobgdaaTally
namespace Go.Proofs.Ythknbafcnobgdaa
set_option linter.unusedVariables false
set_option linter.unusedSimpArgs false
open Go.RowKit

mutual
/-- a tree with its variables replaced -/
def sbT (args : List Tr) : Tr → Tr
  | .node o n ks => if o = 1 then args.getD n.toNat default else .node o n (sbL args ks)
def sbL (args : List Tr) : List Tr → List Tr
  | [] => []
  | t :: ts => sbT args t :: sbL args ts
end
theorem sbT_eq (args : List Tr) (t : Tr) : sbT args t = if t.op = 1 then args.getD t.num.toNat default else .node t.op t.num (sbL args t.kids) := by cases t; simp [sbT]
theorem sbL_map (args : List Tr) : ∀ l : List Tr, sbL args l = l.map (sbT args)
  | [] => by simp [sbL]
  | t :: ts => by rw [sbL, sbL_map args ts]; rfl

/-- every node's variable has a place among so many -/
def VarOk (n : Nat) (t : Tr) : Prop := t.op = 1 → 0 ≤ t.num ∧ t.num < n ∧ t.kids = []
mutual
def AllT (P : Tr → Prop) : Tr → Prop
  | .node o n ks => P (.node o n ks) ∧ AllL P ks
def AllL (P : Tr → Prop) : List Tr → Prop
  | [] => True
  | t :: ts => AllT P t ∧ AllL P ts
end
theorem allT_iff (P : Tr → Prop) (t : Tr) : AllT P t ↔ P t ∧ AllL P t.kids := by cases t; simp [AllT]
theorem allL_iff (P : Tr → Prop) : ∀ l : List Tr, AllL P l ↔ ∀ t ∈ l, AllT P t
  | [] => by simp [AllL]
  | t :: ts => by simp [AllL, allL_iff P ts]
theorem AllT.kid {P : Tr → Prop} {t : Tr} (h : AllT P t) (i : Nat) (hi : i < t.kids.length) : AllT P t.kids[i] := (allL_iff P _).1 ((allT_iff P t).1 h).2 _ (List.getElem_mem hi)
theorem allT_true (P : Tr → Prop) (hP : ∀ t, P t) : ∀ (n : Nat) (t : Tr), szT t ≤ n → AllT P t := by
  intro n
  induction n with
  | zero =>
    intro t h
    refine (allT_iff P t).2 ⟨hP t, (allL_iff P _).2 fun k hk => ?_⟩
    obtain ⟨i, hi, rfl⟩ := List.getElem_of_mem hk
    exact absurd (szT_lt_szL t.kids i hi) (by rw [szT_eq] at h; omega)
  | succ n ih =>
    intro t h
    refine (allT_iff P t).2 ⟨hP t, (allL_iff P _).2 fun k hk => ?_⟩
    obtain ⟨i, hi, rfl⟩ := List.getElem_of_mem hk
    exact ih _ (by have := szT_lt_szL t.kids i hi; rw [szT_eq] at h; omega)
/-- what a well-formed tree's variables are -/
theorem varOk_of_sh (vars : Nat) (defs : Int) : ∀ (d : Nat) (t : Tr), shB vars defs d t = true → AllT (VarOk vars) t
  | 0, t, h => by simp [shB] at h
  | d + 1, t, h => by
    unfold shB at h
    simp only [Bool.and_eq_true, decide_eq_true_eq, List.all_eq_true] at h
    obtain ⟨⟨h1, h2⟩, h3⟩ := h
    refine (allT_iff _ t).2 ⟨fun ho => ?_, (allL_iff _ _).2 fun k hk => varOk_of_sh vars defs d k (h3 k hk)⟩
    unfold ownB at h2
    rw [if_pos ho] at h2
    simp only [decide_eq_true_eq] at h2
    unfold arity at h1
    rw [if_pos (Or.inl ho)] at h1
    exact ⟨h2.1, h2.2, List.eq_nil_of_length_eq_zero (by omega)⟩

/-- is a node the variable i? -/
def isVar (i : Nat) (t : Tr) : Bool := t.op == 1 && t.num == (i : Int)
/-- what the arguments add, so often -/
def gain (args : List Tr) (u : Nat → Nat) : Nat := ((List.range args.length).map fun i => u i * szT (args.getD i default)).sum
theorem sum_map_add (l : List Nat) (f g : Nat → Nat) : (l.map fun i => f i + g i).sum = (l.map f).sum + (l.map g).sum := by
  induction l with
  | nil => rfl
  | cons a l ih => simp only [List.map_cons, List.sum_cons, ih]; omega
theorem sum_map_zero (l : List Nat) : (l.map fun _ => 0).sum = 0 := by
  induction l with
  | nil => rfl
  | cons a l ih => simpa using ih
theorem gain_add (args : List Tr) (u v : Nat → Nat) : gain args (fun i => u i + v i) = gain args u + gain args v := by
  unfold gain
  rw [← sum_map_add]
  congr 1
  refine List.map_congr_left fun i _ => ?_
  rw [Nat.add_mul]
theorem gain_congr (args : List Tr) (u v : Nat → Nat) (h : ∀ i, i < args.length → u i = v i) : gain args u = gain args v := by
  unfold gain
  congr 1
  refine List.map_congr_left fun i hi => ?_
  rw [h i (List.mem_range.1 hi)]
theorem gain_zero (args : List Tr) : gain args (fun _ => 0) = 0 := by
  unfold gain
  rw [List.map_congr_left (g := fun _ => 0) (fun i _ => Nat.zero_mul _), sum_map_zero]
theorem sum_one (n j : Nat) (f : Nat → Nat) (h : j < n) : ((List.range n).map fun i => (if i = j then 1 else 0) * f i).sum = f j := by
  induction n with
  | zero => omega
  | succ n ih =>
    rw [List.range_succ, List.map_append, List.sum_append]
    simp only [List.map_cons, List.map_nil, List.sum_cons, List.sum_nil, Nat.add_zero]
    by_cases hj : j = n
    · subst hj
      have : ((List.range j).map fun i => (if i = j then 1 else 0) * f i).sum = 0 := by
        rw [List.map_congr_left (g := fun _ => 0) (fun i hi => ?_), sum_map_zero]
        have := List.mem_range.1 hi
        rw [if_neg (by omega), Nat.zero_mul]
      rw [this, if_pos rfl]
      omega
    · rw [ih (by omega), if_neg (fun e => hj e.symm)]
      omega
theorem gain_one (args : List Tr) (j : Nat) (h : j < args.length) : gain args (fun i => if i = j then 1 else 0) = szT (args.getD j default) := by
  unfold gain
  exact sum_one args.length j (fun i => szT (args.getD i default)) h

mutual
/-- the size of the result -/
theorem sz_sbT (args : List Tr) : ∀ t : Tr, AllT (VarOk args.length) t → szT (sbT args t) = szT t + gain args (fun i => cntT (isVar i) t)
  | .node o n ks, h => by
    obtain ⟨h1, h2⟩ := (allT_iff _ _).1 h
    by_cases ho : o = 1
    · obtain ⟨g1, g2, g3⟩ := h1 ho
      simp only [Tr.num_node, Tr.kids_node] at g1 g2 g3
      subst ho
      subst g3
      have hj : n.toNat < args.length := by omega
      simp only [sbT, if_true, szT, szL, Nat.zero_add]
      rw [← gain_one args n.toNat hj]
      refine gain_congr args _ _ fun i hi => ?_
      simp only [cntT, cntL, Nat.add_zero, isVar, Tr.op_node, Tr.num_node]
      by_cases hin : i = n.toNat
      · obtain rfl : n = (i : Int) := by omega
        simp
      · have : ¬ n = (i : Int) := by omega
        simp [hin, this]
    · have hk := sz_sbL args ks h2
      simp only [sbT, if_neg ho, szT, hk]
      congr 1
      refine gain_congr args _ _ fun i hi => ?_
      simp [cntT, isVar, ho]
theorem sz_sbL (args : List Tr) : ∀ l : List Tr, AllL (VarOk args.length) l → szL (sbL args l) = szL l + gain args (fun i => cntL (isVar i) l)
  | [], _ => by
    simp only [sbL, szL, cntL, Nat.zero_add]
    exact (gain_zero args).symm
  | t :: ts, h => by
    simp only [AllL] at h
    have h1 := sz_sbT args t h.1
    have h2 := sz_sbL args ts h.2
    simp only [sbL, szL, h1, h2]
    rw [show (fun i => cntL (isVar i) (t :: ts)) = fun i => cntT (isVar i) t + cntL (isVar i) ts from rfl, gain_add]
    omega
end
end Go.Proofs.Ythknbafcnobgdaa

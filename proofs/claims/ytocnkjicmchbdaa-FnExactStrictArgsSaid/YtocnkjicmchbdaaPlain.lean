/-
  PLAIN FACTS ON TREES: how many nodes a list of trees has; which trees are valid expressions. No program is named here.
-/
import Derived.Test.YtocnkjicmchbdaaTree
namespace Go.Proofs.Ytocnkjicmchbdaa
set_option linter.unusedVariables false
set_option linter.unusedSimpArgs false

mutual
/-- how many nodes stand below a tree's top -/
def szT : Tr → Nat
  | .node _ _ ks => szL ks
/-- how many nodes a list of trees has -/
def szL : List Tr → Nat
  | [] => 0
  | t :: ts => 1 + szT t + szL ts
end

theorem szT_eq (t : Tr) : szT t = szL t.kids := by cases t; simp [szT]

/-- the nodes below the tops of a list -/
def sumT (l : List Tr) : Nat := (l.map szT).sum
theorem sumT_nil : sumT [] = 0 := rfl
theorem sumT_cons (t : Tr) (l : List Tr) : sumT (t :: l) = szT t + sumT l := rfl
theorem sumT_append (a b : List Tr) : sumT (a ++ b) = sumT a + sumT b := by simp [sumT]
theorem szL_sum : ∀ (l : List Tr), szL l = l.length + sumT l
  | [] => by simp [szL, sumT]
  | t :: ts => by rw [szL, szL_sum ts, sumT_cons]; simp; omega
theorem sumT_take_succ (l : List Tr) (i : Nat) (h : i < l.length) : sumT (l.take (i + 1)) = sumT (l.take i) + szT l[i] := by
  rw [List.take_succ_eq_append_getElem h, sumT_append]; simp [sumT]
theorem sumT_take_le (l : List Tr) (i : Nat) : sumT (l.take i) ≤ sumT l := by
  conv => rhs; rw [← List.take_append_drop i l, sumT_append]
  omega
theorem szT_le_sumT (l : List Tr) (i : Nat) (h : i < l.length) : szT l[i] ≤ sumT l := by
  have := sumT_take_succ l i h
  have := sumT_take_le l (i + 1)
  omega
theorem szL_append (a b : List Tr) : szL (a ++ b) = szL a + szL b := by simp [szL_sum, sumT_append]; omega
theorem szL_take_succ (l : List Tr) (i : Nat) (h : i < l.length) : szL (l.take (i + 1)) = szL (l.take i) + 1 + szT l[i] := by
  rw [szL_sum, szL_sum, sumT_take_succ l i h, List.length_take, List.length_take]; omega
theorem szL_take_le (l : List Tr) (i : Nat) : szL (l.take i) ≤ szL l := by
  conv => rhs; rw [← List.take_append_drop i l, szL_append]
  omega
theorem szT_lt_szL (l : List Tr) (i : Nat) (h : i < l.length) : szT l[i] < szL l := by
  have := szL_take_succ l i h
  have := szL_take_le l (i + 1)
  omega
theorem szL_kids_lt (l : List Tr) (i : Nat) (h : i < l.length) : szL (l[i]).kids < szL l := by
  rw [← szT_eq]; exact szT_lt_szL l i h

/-- what the law's own count of an argument leaves of a budget -/
def szOut (ks : List Tr) (left : Int) : Int := if (szL ks : Int) ≤ left then left - szL ks else -1

/-- how many operands a kind has -/
def arity (op : Int) : Int :=
  if op = 1 ∨ op = 2 ∨ op = 3 then 0 else if op = 6 ∨ op = 7 then 1 else if op = 4 ∨ op = 5 ∨ op = 8 ∨ op = 9 then 2 else if op = 10 then 3 else -1

/-- is the number of a node right? -/
def ownB (op n vars defs : Int) : Bool :=
  if op = 1 then decide (0 ≤ n ∧ n < vars) else if op = 2 then decide (0 ≤ n ∧ n ≤ 999) else if op = 3 then decide (0 ≤ n ∧ n < defs) else decide (n = 0)

/-- well formed, down to a depth -/
def shB (vars defs : Int) : Nat → Tr → Bool
  | 0, _ => false
  | d + 1, t => decide ((t.kids.length : Int) = arity t.op) && ownB t.op t.num vars defs && t.kids.all (shB vars defs d)

/-- a valid expression -/
def validB (t : Tr) (vars defs : Int) : Bool :=
  decide (0 ≤ vars ∧ vars ≤ 4 ∧ 0 ≤ defs ∧ defs ≤ 6) && (shB vars defs 16 t && decide (1 + szT t ≤ 60))

/-- what is left of a budget of nodes -/
def nlOut (vars defs : Int) (d : Nat) (t : Tr) (nodes : Int) : Int :=
  if shB vars defs d t = true ∧ 1 + (szT t : Int) ≤ nodes then nodes - (1 + szT t) else -1

theorem all_take_succ (p : Tr → Bool) (l : List Tr) (i : Nat) (h : i < l.length) : (l.take (i + 1)).all p = ((l.take i).all p && p l[i]) := by
  rw [List.take_succ_eq_append_getElem h, List.all_append]; simp
theorem all_false_of (p : Tr → Bool) (l : List Tr) (i : Nat) (h : i < l.length) (hp : p l[i] = false) : l.all p = false := by
  rw [List.all_eq_false]; exact ⟨l[i], List.getElem_mem h, by simp [hp]⟩

theorem shB_mono {vars vars' defs defs' : Int} (hv : vars ≤ vars') (hd : defs ≤ defs') : ∀ (d : Nat) (t : Tr), shB vars defs d t = true → shB vars' defs' d t = true
  | 0, _, h => by simp [shB] at h
  | d + 1, t, h => by
    simp only [shB, Bool.and_eq_true, List.all_eq_true] at h ⊢
    obtain ⟨⟨h1, h2⟩, h3⟩ := h
    refine ⟨⟨h1, ?_⟩, fun x hx => shB_mono hv hd d x (h3 x hx)⟩
    unfold ownB at h2 ⊢
    by_cases h1 : t.op = 1
    · rw [if_pos h1] at h2 ⊢; simp at h2 ⊢; omega
    rw [if_neg h1] at h2 ⊢
    by_cases h2' : t.op = 2
    · rw [if_pos h2'] at h2 ⊢; exact h2
    rw [if_neg h2'] at h2 ⊢
    by_cases h3' : t.op = 3
    · rw [if_pos h3'] at h2 ⊢; simp at h2 ⊢; omega
    rw [if_neg h3'] at h2 ⊢; exact h2

end Go.Proofs.Ytocnkjicmchbdaa

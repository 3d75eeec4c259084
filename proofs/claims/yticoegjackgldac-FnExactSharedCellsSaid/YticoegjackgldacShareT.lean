/-
  PLAIN: how often a cell stands among the operands of the cells of a list. No program is named here.
-/
import Derived.Test.YticoegjackgldacReach
namespace Go.Proofs.Yticoegjackgldac
set_option linter.unusedVariables false
set_option linter.unusedSimpArgs false

/-- how often a number stands in a list -/
def cntN (l : List Nat) (k : Nat) : Nat := l.countP (fun x => x == k)
theorem cntN_nil (k : Nat) : cntN [] k = 0 := rfl
theorem cntN_append (a b : List Nat) (k : Nat) : cntN (a ++ b) k = cntN a k + cntN b k := by unfold cntN; exact List.countP_append
theorem cntN_one (a k : Nat) : cntN [a] k = if k = a then 1 else 0 := by
  unfold cntN
  by_cases h : k = a
  · subst h; simp
  · have : (a == k) = false := by simp; omega
    simp [this, h]
theorem cntN_le (l : List Nat) (k : Nat) : cntN l k ≤ l.length := List.countP_le_length
/-- .. among the operands of the cells of a list -/
def useAt (g : List Ce) (l : List Nat) (k : Nat) : Nat := (l.map fun a => cntN (kidsN g a) k).sum
theorem useAt_nil (g : List Ce) (k : Nat) : useAt g [] k = 0 := rfl
theorem useAt_append (g : List Ce) (a b : List Nat) (k : Nat) : useAt g (a ++ b) k = useAt g a k + useAt g b k := by simp [useAt]
theorem useAt_one (g : List Ce) (a k : Nat) : useAt g [a] k = cntN (kidsN g a) k := by simp [useAt]
theorem useAt_le {g : List Ce} {defs : Int} (h : graphB g defs = true) : ∀ (l : List Nat) (k : Nat), (∀ a ∈ l, a < g.length) → useAt g l k ≤ 3 * l.length
  | [], _, _ => by simp [useAt]
  | a :: l, k, hl => by
    have h1 := useAt_le h l k fun x hx => hl x (List.mem_cons_of_mem _ hx)
    have h2 := cntN_le (kidsN g a) k
    have h3 := kidsN_len h a (hl a (by simp))
    have e : useAt g (a :: l) k = cntN (kidsN g a) k + useAt g l k := by simp [useAt]
    rw [e, List.length_cons]; omega
theorem numsN_lt (f : Nat → Bool) : ∀ (n a : Nat), a ∈ numsN f n → a < n
  | 0, a, h => by simp [numsN] at h
  | n + 1, a, h => by
    unfold numsN at h
    split at h
    · rcases List.mem_append.1 h with h | h
      · have := numsN_lt f n a h; omega
      · simp at h; omega
    · have := numsN_lt f n a h; omega
theorem numsN_none (n : Nat) : numsN (fun _ => false) n = [] := by
  induction n with
  | zero => rfl
  | succ n ih => rw [numsN_no rfl, ih]
theorem numsN_congr {f f' : Nat → Bool} : ∀ n, (∀ a, a < n → f a = f' a) → numsN f n = numsN f' n
  | 0, _ => rfl
  | n + 1, h => by
    have e := numsN_congr n fun a ha => h a (by omega)
    unfold numsN
    rw [e, h n (by omega)]
/-- is a count more than one? -/
def manyF (u : Nat → Nat) : Nat → Bool := fun k => decide (1 < u k)
/-- what SharedCells answers -/
def shareB (g : List Ce) (root : Int) (f : Nat → Bool) : List Int := if graphB g 6 = true ∧ isAt g.length root = true then numsTo (manyF (useAt g (numsN f g.length))) g.length else []
theorem shareB_len (g : List Ce) (root : Int) (f : Nat → Bool) : (shareB g root f).length ≤ g.length := by
  unfold shareB; split
  · exact numsTo_len _ _
  · simp
theorem shareB_no {g : List Ce} {root : Int} {fl : Nat → Bool} (h : ¬ (graphB g 6 = true ∧ isAt g.length root = true)) : shareB g root fl = [] := by unfold shareB; rw [if_neg h]
theorem shareB_yes {g : List Ce} {root : Int} {fl : Nat → Bool} (h : graphB g 6 = true ∧ isAt g.length root = true) : shareB g root fl = numsTo (manyF (useAt g (numsN fl g.length))) g.length := by unfold shareB; rw [if_pos h]
theorem take_snoc {l : List Nat} {j k : Nat} (h : l[j]? = some k) : l.take (j + 1) = l.take j ++ [k] := by
  have hj := (List.getElem?_eq_some_iff.1 h).1
  have e := (List.getElem?_eq_some_iff.1 h).2
  rw [List.take_succ_eq_append_getElem hj, e]
end Go.Proofs.Yticoegjackgldac

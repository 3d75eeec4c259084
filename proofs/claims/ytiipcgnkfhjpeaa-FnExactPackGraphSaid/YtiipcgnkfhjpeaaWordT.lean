/-
  PLAIN FACTS ON HEAPS OF WORDS: how long cells are, where they begin, which graph words are. No program is named here.
-/
import Derived.Test.YtiipcgnkfhjpeaaGraphT
namespace Go.Proofs.Ytiipcgnkfhjpeaa
set_option linter.unusedVariables false
set_option linter.unusedSimpArgs false

/-- how many words the cells of a kind take; 0: there are none -/
def wLen (op : Int) : Nat := if op = 2 ∨ op = 3 ∨ op = 6 ∨ op = 7 ∨ op = 11 then 2 else if op = 4 ∨ op = 5 ∨ op = 8 ∨ op = 9 then 3 else if op = 10 then 4 else 0
/-- has such a cell a number, and no operands? -/
def isNumOp (op : Int) : Bool := decide (op = 2 ∨ op = 3)
theorem wLen_le (op : Int) : wLen op ≤ 4 := by unfold wLen; repeat' split
                                               all_goals omega
theorem wLen_pos {op : Int} (h : wLen op ≠ 0) : 2 ≤ wLen op := by unfold wLen at *; repeat' split at *
                                                                  all_goals omega
theorem wLen_num {op : Int} (h : isNumOp op = true) : wLen op = 2 := by
  unfold isNumOp at h; simp at h; unfold wLen; rw [if_pos (by omega)]
theorem wLen_neg {op : Int} (h : op < 0) : wLen op = 0 := by
  unfold wLen; rw [if_neg (by omega), if_neg (by omega), if_neg (by omega)]

/-! ### Graphs as words -/
/-- where the cells of a graph begin, the first one at a place -/
def startsG : List Ce → Nat → List Int
  | [], _ => []
  | c :: g, a => (a : Int) :: startsG g (a + wLen c.op)
/-- how many words the cells of a graph take -/
def endG (g : List Ce) : Nat := (g.map fun c => wLen c.op).sum
theorem endG_append (g h : List Ce) : endG (g ++ h) = endG g + endG h := by simp [endG]
theorem endG_one (c : Ce) : endG [c] = wLen c.op := by simp [endG]
theorem endG_le (g : List Ce) : endG g ≤ 4 * g.length := by
  induction g with
  | nil => simp [endG]
  | cons c g ih => have h : endG (c :: g) = wLen c.op + endG g := by simp [endG]
                   have := wLen_le c.op
                   rw [h, List.length_cons]; omega
theorem startsG_length (g : List Ce) : ∀ a, (startsG g a).length = g.length := by
  induction g with
  | nil => intro a; rfl
  | cons c g ih => intro a; simp [startsG, ih]
theorem startsG_append (g h : List Ce) : ∀ a, startsG (g ++ h) a = startsG g a ++ startsG h (a + endG g) := by
  induction g with
  | nil => intro a; simp [startsG, endG]
  | cons c g ih =>
    intro a
    have e : endG (c :: g) = wLen c.op + endG g := by simp [endG]
    rw [List.cons_append, startsG, ih, startsG, e, List.cons_append, Nat.add_assoc]
theorem take_snocC {g : List Ce} {j : Nat} (h : j < g.length) : g.take (j + 1) = g.take j ++ [g[j]] := by rw [List.take_succ_eq_append_getElem h]
theorem startsG_snoc {g : List Ce} {j : Nat} (h : j < g.length) : startsG (g.take (j + 1)) 0 = startsG (g.take j) 0 ++ [((endG (g.take j) : Nat) : Int)] := by
  rw [take_snocC h, startsG_append]
  simp [startsG]
theorem endG_snoc {g : List Ce} {j : Nat} (h : j < g.length) : endG (g.take (j + 1)) = endG (g.take j) + wLen g[j].op := by
  rw [take_snocC h, endG_append, endG_one]
theorem endG_take_le (g : List Ce) (j : Nat) : endG (g.take j) ≤ 4 * g.length := by
  have h1 := endG_le (g.take j)
  have h2 : (g.take j).length ≤ g.length := by rw [List.length_take]; omega
  omega
/-- the words of the operands -/
def kidW (st : List Int) (k : Int) : Int := st.getD k.toNat 0
/-- the words of a cell -/
def wordsC (st : List Int) (c : Ce) : List Int := c.op :: ((if c.kids = [] then [c.num] else []) ++ c.kids.map (kidW st))
/-- the words of a graph -/
def wordsG (g : List Ce) : List Int := g.flatMap (wordsC (startsG g 0))
/-- of the first cells -/
def wordsTo (g : List Ce) (j : Nat) : List Int := (g.take j).flatMap (wordsC (startsG g 0))
theorem wordsTo_zero (g : List Ce) : wordsTo g 0 = [] := by simp [wordsTo]
theorem wordsTo_all (g : List Ce) : wordsTo g g.length = wordsG g := by simp [wordsTo, wordsG]
theorem wordsTo_snoc {g : List Ce} {j : Nat} (h : j < g.length) : wordsTo g (j + 1) = wordsTo g j ++ wordsC (startsG g 0) g[j] := by
  unfold wordsTo; rw [take_snocC h, List.flatMap_append]; simp
theorem wordsTo_len {g : List Ce} (hk : ∀ c ∈ g, c.kids.length ≤ 3) : ∀ j, (wordsTo g j).length ≤ 5 * j := by
  intro j
  induction j with
  | zero => simp [wordsTo_zero]
  | succ j ih =>
    by_cases h : j < g.length
    · rw [wordsTo_snoc h, List.length_append]
      have h1 := hk _ (List.getElem_mem h)
      have h2 : (wordsC (startsG g 0) g[j]).length ≤ 5 := by unfold wordsC; split <;> simp <;> omega
      omega
    · have e : wordsTo g (j + 1) = wordsTo g j := by unfold wordsTo; rw [List.take_of_length_le (by omega), List.take_of_length_le (by omega)]
      rw [e]; omega
/-- the answer of PackGraph -/
def packO (g : List Ce) : List Int × List Int × Bool := if graphB g 6 = true then (wordsG g, startsG g 0, true) else ([], [], false)
theorem packO_no {g : List Ce} (h : graphB g 6 = false) : packO g = ([], [], false) := by unfold packO; rw [if_neg (by rw [h]; simp)]
theorem packO_yes {g : List Ce} (h : graphB g 6 = true) : packO g = (wordsG g, startsG g 0, true) := by unfold packO; rw [if_pos h]
/-- a cell of a graph: its length, and whether it has a number -/
theorem graph_cell {g : List Ce} {defs : Int} (h : graphB g defs = true) (j : Nat) (hj : j < g.length) : (g[j].kids = [] ↔ isNumOp g[j].op = true) ∧ wLen g[j].op = 1 + (if g[j].kids = [] then 1 else g[j].kids.length) ∧ wLen g[j].op ≠ 0 ∧ g[j].op ≠ 1 ∧ g[j].kids.length ≤ 3 := by
  have hc := graphB_cell h j hj
  unfold cellB fitsB at hc
  simp only [Bool.and_eq_true, decide_eq_true_eq] at hc
  obtain ⟨⟨h1, h2⟩, -⟩ := hc
  generalize g[j] = c at *
  have ho : c.op ≠ 1 := by intro e; rw [e, ownB_var] at h2; cases h2
  have hk : c.kids = [] ↔ c.kids.length = 0 := List.length_eq_zero_iff.symm
  unfold isNumOp wLen
  unfold cArity arity at h1
  simp only [decide_eq_true_eq, hk]
  clear h2 hk
  repeat' split at h1
  all_goals (generalize c.kids.length = n at *; generalize c.op = op at *; refine ⟨?_, ?_, ?_, ho, by omega⟩ <;> (repeat' split) <;> omega)
theorem graph_kid {g : List Ce} {defs : Int} (h : graphB g defs = true) (j : Nat) (hj : j < g.length) (q : Nat) (hq : q < g[j].kids.length) : ∃ k : Nat, g[j].kids[q] = (k : Int) ∧ k < g.length := by
  have hc := graphB_cell h j hj
  unfold cellB at hc
  simp only [Bool.and_eq_true, List.all_eq_true, isAt, decide_eq_true_eq] at hc
  have := hc.2 _ (List.getElem_mem hq)
  exact ⟨g[j].kids[q].toNat, by omega, by omega⟩
theorem kidW_at {st : List Int} {k : Nat} (h : k < st.length) : kidW st (k : Int) = st[k] := by simp [kidW, h]
end Go.Proofs.Ytiipcgnkfhjpeaa

/-
  PLAIN FACTS ON GRAPHS: which lists of cells are graphs; where indirections lead. No program is named here.
-/
import Derived.Test.YthknbafcnobgdaaCells
namespace Go.Proofs.Ythknbafcnobgdaa
set_option linter.unusedVariables false
set_option linter.unusedSimpArgs false

/-- how many operands a kind of cell has -/
def cArity (op : Int) : Int := if op = 11 then 1 else arity op
/-- are these cells of a graph? -/
def isAt (cells : Int) (k : Int) : Bool := decide (0 ≤ k ∧ k < cells)
/-- has a cell the fields of its kind, whatever its operands? -/
def fitsB (defs : Int) (c : Ce) : Bool := decide ((c.kids.length : Int) = cArity c.op) && ownB c.op c.num 0 defs
/-- is it a cell of a graph with some cells? -/
def cellB (cells defs : Int) (c : Ce) : Bool := fitsB defs c && c.kids.all (isAt cells)
def graphB (g : List Ce) (defs : Int) : Bool := decide ((g.length : Int) ≤ 400 ∧ 0 ≤ defs ∧ defs ≤ 6) && g.all (cellB g.length defs)

theorem ownB_var (n defs : Int) : ownB 1 n 0 defs = false := by unfold ownB; rw [if_pos rfl, decide_eq_false]; omega
theorem allI_take_succ {α : Type} (p : α → Bool) (l : List α) (i : Nat) (h : i < l.length) : (l.take (i + 1)).all p = ((l.take i).all p && p l[i]) := by
  rw [List.take_succ_eq_append_getElem h, List.all_append]; simp
theorem allI_false_of {α : Type} (p : α → Bool) (l : List α) (i : Nat) (h : i < l.length) (hp : p l[i] = false) : l.all p = false := by
  rw [List.all_eq_false]; exact ⟨l[i], List.getElem_mem h, by simp [hp]⟩

/-! ### Indirections -/
/-- the first operand -/
def kid0 (c : Ce) : Int := c.kids.getD 0 0
/-- the cell for which a cell stands -/
def nxt (g : List Ce) (a : Nat) : Nat := (kid0 (g.getD a ⟨0, 0, []⟩)).toNat
def opAt (g : List Ce) (a : Nat) : Int := (g.getD a ⟨0, 0, []⟩).op
/-- the first cell that is no indirection, after at most n looks -/
def followN (g : List Ce) : Nat → Nat → Option Nat
  | 0, _ => none
  | n + 1, a => if opAt g a = 11 then followN g n (nxt g a) else some a
/-- where n steps lead -/
def chase (g : List Ce) (a : Nat) : Nat → Nat
  | 0 => a
  | n + 1 => nxt g (chase g a n)
theorem chase_succ (g : List Ce) (a n : Nat) : chase g a (n + 1) = chase g (nxt g a) n := by
  induction n with
  | zero => rfl
  | succ n ih => rw [chase, ih]; rfl
theorem chase_add (g : List Ce) (a : Nat) (i k : Nat) : chase g a (i + k) = chase g (chase g a i) k := by
  induction k with
  | zero => rfl
  | succ k ih => rw [← Nat.add_assoc, chase, ih]; rfl
theorem followN_none {g : List Ce} : ∀ (n a : Nat), followN g n a = none → ∀ i, i < n → opAt g (chase g a i) = 11
  | 0, _, _, i, hi => absurd hi (by omega)
  | n + 1, a, h, i, hi => by
    unfold followN at h
    split at h
    · rename_i h1
      cases i with
      | zero => exact h1
      | succ i => rw [chase_succ]; exact followN_none n _ h i (by omega)
    · simp at h
/-- one more look -/
theorem followN_succ (g : List Ce) : ∀ (n a : Nat), followN g (n + 1) a = (followN g n a).or (if opAt g (chase g a n) = 11 then none else some (chase g a n))
  | 0, a => by rw [followN, followN, Option.none_or]; rfl
  | n + 1, a => by
    rw [followN]
    conv => rhs; rw [followN]
    split
    · rw [followN_succ g n (nxt g a), chase_succ]
    · simp

theorem pigeon : ∀ (n m : Nat) (f : Nat → Nat), (∀ i, i < m → f i < n) → (∀ i j, i < m → j < m → f i = f j → i = j) → m ≤ n
  | 0, m, f, hf, _ => by
    cases m with
    | zero => omega
    | succ m => exact absurd (hf 0 (by omega)) (by omega)
  | n + 1, 0, _, _, _ => by omega
  | n + 1, m + 1, f, hf, hi => by
    have := pigeon n m (fun i => if f i = n then f m else f i) (fun i h => by
      have h1 := hf i (by omega)
      have h2 := hf m (by omega)
      show (if f i = n then f m else f i) < n
      split
      · rename_i e
        have : f m ≠ n := fun e2 => by have := hi i m (by omega) (by omega) (by rw [e, e2]); omega
        omega
      · omega) (fun i j h1 h2 e => by
      have e : (if f i = n then f m else f i) = (if f j = n then f m else f j) := e
      split at e <;> split at e
      · rename_i a b; exact hi i j (by omega) (by omega) (by rw [a, b])
      · have := hi m j (by omega) (by omega) e; omega
      · have := hi i m (by omega) (by omega) e; omega
      · exact hi i j (by omega) (by omega) e)
    omega

theorem graphB_cell {g : List Ce} {defs : Int} (h : graphB g defs = true) (a : Nat) (ha : a < g.length) : cellB g.length defs g[a] = true := by
  unfold graphB at h
  simp only [Bool.and_eq_true, List.all_eq_true] at h
  exact h.2 _ (List.getElem_mem ha)
theorem graphB_len {g : List Ce} {defs : Int} (h : graphB g defs = true) : g.length ≤ 400 := by
  unfold graphB at h
  simp only [Bool.and_eq_true, decide_eq_true_eq] at h
  omega
theorem getD_at {α : Type} (g : List α) (d : α) (a : Nat) (ha : a < g.length) : g.getD a d = g[a] := by simp [ha]
/-- an indirection of a graph has one operand, a cell -/
theorem ind_kid {g : List Ce} {defs : Int} (h : graphB g defs = true) (a : Nat) (ha : a < g.length) (ho : g[a].op = 11) : ∃ k : Nat, g[a].kids = [(k : Int)] ∧ k < g.length ∧ nxt g a = k := by
  have hc := graphB_cell h a ha
  unfold cellB fitsB cArity at hc
  simp only [Bool.and_eq_true, decide_eq_true_eq, List.all_eq_true, isAt] at hc
  obtain ⟨⟨h1, -⟩, h3⟩ := hc
  rw [if_pos ho] at h1
  obtain ⟨x, hx⟩ : ∃ x, g[a].kids = [x] := by
    have h2 : g[a].kids.length = 1 := by omega
    revert h2
    generalize g[a].kids = l
    intro h2
    match l, h2 with
    | [x], _ => exact ⟨x, rfl⟩
  have h4 := h3 x (by rw [hx]; simp)
  refine ⟨x.toNat, by rw [hx]; simp; omega, by omega, ?_⟩
  unfold nxt kid0
  rw [getD_at _ _ _ ha, hx]
  rfl
theorem nxt_lt {g : List Ce} {defs : Int} (h : graphB g defs = true) (a : Nat) (ha : a < g.length) (ho : opAt g a = 11) : nxt g a < g.length := by
  unfold opAt at ho
  rw [getD_at _ _ _ ha] at ho
  obtain ⟨k, -, h2, h3⟩ := ind_kid h a ha ho
  omega
/-- as many looks as there are cells are enough -/
theorem follow_enough {g : List Ce} {defs : Int} (h : graphB g defs = true) (a : Nat) (ha : a < g.length) : followN g (g.length + 1) a = followN g g.length a := by
  rw [followN_succ]
  cases hf : followN g g.length a with
  | some b => rfl
  | none =>
    have hall := followN_none _ _ hf
    simp only [Option.none_or]
    split
    · rfl
    · rename_i hne
      exfalso
      have hlt : ∀ i, i ≤ g.length → chase g a i < g.length := by
        intro i
        induction i with
        | zero => intro _; exact ha
        | succ i ih => intro hi; rw [chase]; exact nxt_lt h _ (ih (by omega)) (hall i (by omega))
      have := pigeon g.length (g.length + 1) (chase g a) (fun i hi => hlt i (by omega)) (by
        have key : ∀ i j, i < j → j ≤ g.length → chase g a i ≠ chase g a j := by
          intro i j hij hj e
          have e1 : chase g a (i + (g.length - j)) = chase g a (j + (g.length - j)) := by rw [chase_add, chase_add, e]
          have e2 := hall (i + (g.length - j)) (by omega)
          rw [e1, show j + (g.length - j) = g.length by omega] at e2
          exact hne e2
        intro i j hi hj e
        rcases Nat.lt_trichotomy i j with h1 | h1 | h1
        · exact absurd e (key i j h1 (by omega))
        · exact h1
        · exact absurd e.symm (key j i h1 (by omega)))
      omega
/-- where a cell leads, or none -/
def followB (g : List Ce) (a : Int) : Option Nat := if graphB g 6 = true ∧ 0 ≤ a ∧ a < g.length then followN g g.length a.toNat else none
def folV (g : List Ce) (a : Int) : Int := match followB g a with | some b => (b : Int) | none => 0
def folB (g : List Ce) (a : Int) : Bool := (followB g a).isSome
theorem fol_no {g : List Ce} {a : Int} (h : ¬ (graphB g 6 = true ∧ 0 ≤ a ∧ a < g.length)) : folV g a = 0 ∧ folB g a = false := by
  unfold folV folB followB; rw [if_neg h]; exact ⟨rfl, rfl⟩
theorem fol_none {g : List Ce} {a : Int} (h : graphB g 6 = true ∧ 0 ≤ a ∧ a < g.length) (hf : followN g g.length a.toNat = none) : folV g a = 0 ∧ folB g a = false := by
  unfold folV folB followB; rw [if_pos h, hf]; exact ⟨rfl, rfl⟩
theorem fol_some {g : List Ce} {a : Int} (h : graphB g 6 = true ∧ 0 ≤ a ∧ a < g.length) {b : Nat} (hf : followN g g.length a.toNat = some b) : folV g a = b ∧ folB g a = true := by
  unfold folV folB followB; rw [if_pos h, hf]; exact ⟨rfl, rfl⟩
theorem followN_lt {g : List Ce} {defs : Int} (h : graphB g defs = true) : ∀ (n a b : Nat), a < g.length → followN g n a = some b → b < g.length ∧ opAt g b ≠ 11
  | 0, _, _, _, e => by simp [followN] at e
  | n + 1, a, b, ha, e => by
    unfold followN at e
    split at e
    · rename_i ho
      exact followN_lt h n _ b (nxt_lt h a ha ho) e
    · rename_i ho
      cases e
      exact ⟨ha, ho⟩
end Go.Proofs.Ythknbafcnobgdaa

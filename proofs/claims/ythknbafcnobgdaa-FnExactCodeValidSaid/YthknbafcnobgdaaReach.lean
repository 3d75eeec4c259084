/-
  PLAIN FACTS ON WHAT CAN BE REACHED IN A GRAPH: the two searches (marked when taken from the work, marked when added to it), each with what holds behind every step. No program is named here.
-/
import Derived.Test.YthknbafcnobgdaaGraphT
namespace Go.Proofs.Ythknbafcnobgdaa
set_option linter.unusedVariables false
set_option linter.unusedSimpArgs false

/-- the operands of a cell, as places -/
def kidsN (g : List Ce) (a : Nat) : List Nat := (g.getD a ⟨0, 0, []⟩).kids.map Int.toNat
inductive Reach (g : List Ce) (r : Nat) : Nat → Prop
  | root : Reach g r r
  | kid (a k : Nat) : Reach g r a → k ∈ kidsN g a → Reach g r k

theorem arity_le (op : Int) : cArity op ≤ 3 := by unfold cArity arity; repeat' split; all_goals omega
theorem kids_graph {g : List Ce} {defs : Int} (h : graphB g defs = true) (a : Nat) (ha : a < g.length) : g[a].kids.length ≤ 3 ∧ ∀ k ∈ g[a].kids, 0 ≤ k ∧ k < g.length := by
  have hc := graphB_cell h a ha
  unfold cellB fitsB at hc
  simp only [Bool.and_eq_true, decide_eq_true_eq, List.all_eq_true, isAt] at hc
  obtain ⟨⟨h1, -⟩, h3⟩ := hc
  have := arity_le g[a].op
  exact ⟨by omega, h3⟩
theorem kidsN_at {g : List Ce} (a : Nat) (ha : a < g.length) : kidsN g a = g[a].kids.map Int.toNat := by unfold kidsN; rw [getD_at _ _ _ ha]
theorem kidsN_len {g : List Ce} {defs : Int} (h : graphB g defs = true) (a : Nat) (ha : a < g.length) : (kidsN g a).length ≤ 3 := by rw [kidsN_at a ha]; simpa using (kids_graph h a ha).1
theorem kidsN_lt {g : List Ce} {defs : Int} (h : graphB g defs = true) (a : Nat) (ha : a < g.length) (k : Nat) (hk : k ∈ kidsN g a) : k < g.length := by
  rw [kidsN_at a ha] at hk
  simp only [List.mem_map] at hk
  obtain ⟨x, hx, rfl⟩ := hk
  have := (kids_graph h a ha).2 x hx
  omega
/-- operand j, as a number -/
theorem kidsN_get {g : List Ce} {defs : Int} (h : graphB g defs = true) (a : Nat) (ha : a < g.length) (j : Nat) (hj : j < g[a].kids.length) : ∃ k : Nat, g[a].kids[j] = (k : Int) ∧ k < g.length ∧ (kidsN g a)[j]? = some k := by
  have h1 := (kids_graph h a ha).2 _ (List.getElem_mem hj)
  refine ⟨(g[a].kids[j]).toNat, by omega, by omega, ?_⟩
  rw [kidsN_at a ha]
  simp [hj]

def setF (f : Nat → Bool) (a : Nat) : Nat → Bool := fun b => if b = a then true else f b
theorem setF_same (f : Nat → Bool) (a : Nat) : setF f a a = true := by simp [setF]
theorem setF_of {f : Nat → Bool} {a b : Nat} (h : f b = true) : setF f a b = true := by unfold setF; split <;> simp_all
theorem setF_inv {f : Nat → Bool} {a b : Nat} (h : setF f a b = true) : b = a ∨ f b = true := by
  unfold setF at h; split at h
  · left; assumption
  · right; exact h
/-- how many places are not marked yet -/
def unset (f : Nat → Bool) : Nat → Nat
  | 0 => 0
  | n + 1 => unset f n + if f n then 0 else 1
theorem unset_le (f : Nat → Bool) : ∀ n, unset f n ≤ n
  | 0 => Nat.le_refl _
  | n + 1 => by have := unset_le f n; unfold unset; split <;> omega
theorem unset_out (f : Nat → Bool) (a : Nat) : ∀ n, n ≤ a → unset (setF f a) n = unset f n
  | 0, _ => rfl
  | n + 1, h => by
    have e : setF f a n = f n := by unfold setF; rw [if_neg (by omega)]
    unfold unset; rw [unset_out f a n (by omega), e]
theorem unset_set (f : Nat → Bool) (a : Nat) (hf : f a = false) : ∀ n, a < n → unset (setF f a) n + 1 = unset f n
  | 0, h => by omega
  | n + 1, h => by
    by_cases e : a = n
    · subst e
      unfold unset
      rw [unset_out f a a (Nat.le_refl _), setF_same, hf]
      simp
    · have e2 : setF f a n = f n := by unfold setF; rw [if_neg (by omega)]
      have := unset_set f a hf n (by omega)
      unfold unset; rw [e2]; omega

/-! ### The model's search: marked when it is taken -/
structure SInv (g : List Ce) (r : Nat) (f : Nat → Bool) (work : List Nat) : Prop where
  rt : f r = true ∨ r ∈ work
  fl : ∀ a, f a = true → Reach g r a ∧ a < g.length
  wk : ∀ a ∈ work, Reach g r a ∧ a < g.length
  cl : ∀ a, f a = true → ∀ k ∈ kidsN g a, f k = true ∨ k ∈ work
theorem SInv.start (g : List Ce) (r : Nat) (hr : r < g.length) : SInv g r (fun _ => false) [r] where
  rt := Or.inr (by simp)
  fl := by intro a h; cases h
  wk := by intro a h; simp only [List.mem_singleton] at h; subst h; exact ⟨.root, hr⟩
  cl := by intro a h; cases h
theorem SInv.old {g : List Ce} {r a : Nat} {f : Nat → Bool} {rest : List Nat} (h : SInv g r f (rest ++ [a])) (ha : f a = true) : SInv g r f rest where
  rt := by
    rcases h.rt with h1 | h1
    · exact Or.inl h1
    · rcases List.mem_append.1 h1 with h2 | h2
      · exact Or.inr h2
      · simp only [List.mem_singleton] at h2; subst h2; exact Or.inl ha
  fl := h.fl
  wk := fun b hb => h.wk b (List.mem_append_left _ hb)
  cl := fun b hb k hk => by
    rcases h.cl b hb k hk with h1 | h1
    · exact Or.inl h1
    · rcases List.mem_append.1 h1 with h2 | h2
      · exact Or.inr h2
      · simp only [List.mem_singleton] at h2; subst h2; exact Or.inl ha
theorem SInv.new {g : List Ce} {r a : Nat} {defs : Int} {f : Nat → Bool} {rest : List Nat} (hg : graphB g defs = true) (h : SInv g r f (rest ++ [a])) : SInv g r (setF f a) (rest ++ kidsN g a) := by
  have ha := h.wk a (List.mem_append_right _ (by simp))
  refine ⟨?_, fun b hb => ?_, fun b hb => ?_, fun b hb k hk => ?_⟩
  · rcases h.rt with h1 | h1
    · exact Or.inl (setF_of h1)
    · rcases List.mem_append.1 h1 with h2 | h2
      · exact Or.inr (List.mem_append_left _ h2)
      · simp only [List.mem_singleton] at h2; subst h2; exact Or.inl (setF_same _ _)
  · rcases setF_inv hb with rfl | h1
    · exact ha
    · exact h.fl b h1
  · rcases List.mem_append.1 hb with h1 | h1
    · exact h.wk b (List.mem_append_left _ h1)
    · exact ⟨.kid a b ha.1 h1, kidsN_lt hg a ha.2 b h1⟩
  · rcases setF_inv hb with rfl | h1
    · exact Or.inr (List.mem_append_right _ hk)
    · rcases h.cl b h1 k hk with h2 | h2
      · exact Or.inl (setF_of h2)
      · rcases List.mem_append.1 h2 with h3 | h3
        · exact Or.inr (List.mem_append_left _ h3)
        · simp only [List.mem_singleton] at h3; subst h3; exact Or.inl (setF_same _ _)
theorem SInv.done {g : List Ce} {r : Nat} {f : Nat → Bool} (h : SInv g r f []) (a : Nat) : f a = true ↔ Reach g r a := by
  refine ⟨fun h1 => (h.fl a h1).1, fun h1 => ?_⟩
  induction h1 with
  | root => rcases h.rt with h1 | h1; exact h1; simp at h1
  | kid a k _ hk ih => rcases h.cl a ih k hk with h1 | h1; exact h1; simp at h1

/-! ### The program's search: marked when it is added -/
structure IInv (g : List Ce) (r : Nat) (f : Nat → Bool) (work : List Nat) : Prop where
  rt : f r = true
  fl : ∀ a, f a = true → Reach g r a ∧ a < g.length
  wk : ∀ a ∈ work, f a = true
  cl : ∀ a, f a = true → a ∈ work ∨ ∀ k ∈ kidsN g a, f k = true
/-- .. in the middle of the operands of a cell -/
structure MInv (g : List Ce) (r : Nat) (f : Nat → Bool) (work : List Nat) (at' j : Nat) : Prop where
  rt : f r = true
  fl : ∀ a, f a = true → Reach g r a ∧ a < g.length
  wk : ∀ a ∈ work, f a = true
  me : f at' = true
  cl : ∀ a, f a = true → a ∈ work ∨ a = at' ∨ ∀ k ∈ kidsN g a, f k = true
  js : ∀ i, i < j → ∀ k, (kidsN g at')[i]? = some k → f k = true
theorem IInv.start (g : List Ce) (r : Nat) (hr : r < g.length) : IInv g r (setF (fun _ => false) r) [r] where
  rt := setF_same _ _
  fl := by intro a h; rcases setF_inv h with rfl | h; exact ⟨.root, hr⟩; cases h
  wk := by intro a h; simp only [List.mem_singleton] at h; subst h; exact setF_same _ _
  cl := by intro a h; rcases setF_inv h with rfl | h; exact Or.inl (by simp); cases h
theorem IInv.pop {g : List Ce} {r a : Nat} {f : Nat → Bool} {rest : List Nat} (h : IInv g r f (rest ++ [a])) : MInv g r f rest a 0 where
  rt := h.rt
  fl := h.fl
  wk := fun b hb => h.wk b (List.mem_append_left _ hb)
  me := h.wk a (List.mem_append_right _ (by simp))
  cl := fun b hb => by
    rcases h.cl b hb with h1 | h1
    · rcases List.mem_append.1 h1 with h2 | h2
      · exact Or.inl h2
      · simp only [List.mem_singleton] at h2; exact Or.inr (Or.inl h2)
    · exact Or.inr (Or.inr h1)
  js := fun i hi => absurd hi (by omega)
theorem MInv.old {g : List Ce} {r a j k : Nat} {f : Nat → Bool} {work : List Nat} (h : MInv g r f work a j) (hk : (kidsN g a)[j]? = some k) (hf : f k = true) : MInv g r f work a (j + 1) where
  rt := h.rt
  fl := h.fl
  wk := h.wk
  me := h.me
  cl := h.cl
  js := fun i hi x hx => by
    by_cases e : i = j
    · subst e; rw [hk] at hx; cases hx; exact hf
    · exact h.js i (by omega) x hx
theorem MInv.new {g : List Ce} {r a j k : Nat} {f : Nat → Bool} {work : List Nat} (h : MInv g r f work a j) (hk : (kidsN g a)[j]? = some k) (hl : k < g.length) : MInv g r (setF f k) (work ++ [k]) a (j + 1) where
  rt := setF_of h.rt
  fl := fun b hb => by
    rcases setF_inv hb with rfl | h1
    · exact ⟨.kid a b (h.fl a h.me).1 (List.mem_of_getElem? hk), hl⟩
    · exact h.fl b h1
  wk := fun b hb => by
    rcases List.mem_append.1 hb with h1 | h1
    · exact setF_of (h.wk b h1)
    · simp only [List.mem_singleton] at h1; subst h1; exact setF_same _ _
  me := setF_of h.me
  cl := fun b hb => by
    rcases setF_inv hb with rfl | h1
    · exact Or.inl (by simp)
    · rcases h.cl b h1 with h2 | h2 | h2
      · exact Or.inl (List.mem_append_left _ h2)
      · exact Or.inr (Or.inl h2)
      · exact Or.inr (Or.inr fun x hx => setF_of (h2 x hx))
  js := fun i hi x hx => by
    by_cases e : i = j
    · subst e; rw [hk] at hx; cases hx; exact setF_same _ _
    · exact setF_of (h.js i (by omega) x hx)
theorem MInv.done {g : List Ce} {r a j : Nat} {f : Nat → Bool} {work : List Nat} (h : MInv g r f work a j) (hj : (kidsN g a).length ≤ j) : IInv g r f work where
  rt := h.rt
  fl := h.fl
  wk := h.wk
  cl := fun b hb => by
    rcases h.cl b hb with h1 | h1 | h1
    · exact Or.inl h1
    · subst h1
      refine Or.inr fun k hk => ?_
      obtain ⟨i, hi, e⟩ := List.mem_iff_getElem.1 hk
      exact h.js i (by omega) k (by rw [List.getElem?_eq_getElem hi, e])
    · exact Or.inr h1
theorem IInv.done {g : List Ce} {r : Nat} {f : Nat → Bool} (h : IInv g r f []) (a : Nat) : f a = true ↔ Reach g r a := by
  refine ⟨fun h1 => (h.fl a h1).1, fun h1 => ?_⟩
  induction h1 with
  | root => exact h.rt
  | kid a k _ hk ih => rcases h.cl a ih with h1 | h1; simp at h1; exact h1 k hk

/-- marks that tell what can be reached -/
theorem reach_marks (g : List Ce) (r : Nat) : ∃ f : Nat → Bool, ∀ a, f a = true ↔ Reach g r a := by
  refine ⟨fun a => @decide (Reach g r a) (Classical.propDecidable _), fun a => ?_⟩
  simp
theorem marks_eq {g : List Ce} {r : Nat} {f f' : Nat → Bool} (h : ∀ a, f a = true ↔ Reach g r a) (h' : ∀ a, f' a = true ↔ Reach g r a) : f = f' := by
  funext a
  have e := (h a).trans (h' a).symm
  cases h1 : f a <;> cases h2 : f' a <;> simp_all

/-- the places that are marked, in their order -/
def numsN (f : Nat → Bool) : Nat → List Nat
  | 0 => []
  | n + 1 => if f n then numsN f n ++ [n] else numsN f n
theorem numsN_len (f : Nat → Bool) : ∀ n, (numsN f n).length ≤ n
  | 0 => by simp [numsN]
  | n + 1 => by have := numsN_len f n; unfold numsN; split <;> simp <;> omega
theorem numsN_yes {f : Nat → Bool} {n : Nat} (h : f n = true) : numsN f (n + 1) = numsN f n ++ [n] := by rw [numsN, if_pos h]
theorem numsN_no {f : Nat → Bool} {n : Nat} (h : f n = false) : numsN f (n + 1) = numsN f n := by rw [numsN, if_neg (by rw [h]; simp)]
def numsTo (f : Nat → Bool) (n : Nat) : List Int := (numsN f n).map fun (a : Nat) => (a : Int)
theorem numsTo_len (f : Nat → Bool) (n : Nat) : (numsTo f n).length ≤ n := by unfold numsTo; rw [List.length_map]; exact numsN_len f n
/-- what CellsFrom answers -/
def fromB (g : List Ce) (root : Int) (f : Nat → Bool) : List Int := if graphB g 6 = true ∧ isAt g.length root = true then numsTo f g.length else []
theorem fromB_len (g : List Ce) (root : Int) (f : Nat → Bool) : (fromB g root f).length ≤ g.length := by
  unfold fromB; split
  · exact numsTo_len f _
  · simp
theorem fromB_no {g : List Ce} {root : Int} {fl : Nat → Bool} (h : ¬ (graphB g 6 = true ∧ isAt g.length root = true)) : fromB g root fl = [] := by unfold fromB; rw [if_neg h]
theorem fromB_yes {g : List Ce} {root : Int} {fl : Nat → Bool} (h : graphB g 6 = true ∧ isAt g.length root = true) : fromB g root fl = numsTo fl g.length := by unfold fromB; rw [if_pos h]
theorem take_snoc {l : List Nat} {j k : Nat} (h : l[j]? = some k) : l.take (j + 1) = l.take j ++ [k] := by
  have hj := (List.getElem?_eq_some_iff.1 h).1
  have e := (List.getElem?_eq_some_iff.1 h).2
  rw [List.take_succ_eq_append_getElem hj, e]
end Go.Proofs.Ythknbafcnobgdaa

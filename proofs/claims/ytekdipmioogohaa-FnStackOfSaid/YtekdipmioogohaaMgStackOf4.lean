/-
  PLAIN FACTS ON CODE: the stack's height is bounded by the number of instructions; a beginning of code has a lower stack; more variables and functions.
-/
import Derived.Test.YtekdipmioogohaaMgStackOf3
import Derived.Laws.AppendOwn
import Derived.Laws.AppendOwnNone
import Derived.Test.YtekdipmioogohaaMgStackOf1
import Derived.Test.YtekdipmioogohaaProg
import Derived.Deep.RegionWith
import Derived.Deep.DeepMust
import Derived.Deep.QuietTactic
import Derived.BigQuiet
namespace Go.Proofs.Ytekdipmioogohaa
set_option linter.unusedVariables false
set_option linter.unusedSimpArgs false

theorem mxL_append (a b : List Nat) : mxL a ≤ mxL (a ++ b) := by
  induction b generalizing a with
  | nil => simp
  | cons x b ih =>
    have h := ih (a ++ [x])
    rw [mxL_snoc, List.append_assoc] at h
    exact Nat.le_trans (Nat.le_max_left _ _) h
theorem dsC_ext {s d : List Nat} {cs : List Ins} (h : dsC s cs = some d) : ∃ r, d = s ++ r := by
  induction cs generalizing s with
  | nil => simp only [dsC, Option.some.injEq] at h; subst h; exact ⟨[], by simp⟩
  | cons c cs ih =>
    simp only [dsC] at h
    cases e : dstp s c with
    | none => rw [e] at h; cases h
    | some s' =>
      rw [e, Option.bind_some] at h
      obtain ⟨r, hr⟩ := ih h
      unfold dstp at e
      cases e2 : hstp (topH s) c with
      | none => rw [e2] at e; cases e
      | some x =>
        rw [e2] at e
        simp only [Option.map_some, Option.some.injEq] at e
        exact ⟨x :: r, by rw [hr, ← e]; simp⟩
theorem stackO_some {cs : List Ins} {ds : List Nat} (h : dsC [] cs = some ds) : stackO cs = mxL ds := by unfold stackO; rw [h]
theorem stackO_none {cs : List Ins} (h : dsC [] cs = none) : stackO cs = 0 := by unfold stackO; rw [h]
theorem mxL_le {s d : List Nat} {cs : List Ins} {B : Nat} (h : dsC s cs = some d) (h1 : mxL s ≤ B) (h2 : topH s + cs.length ≤ B) : mxL d ≤ B := by
  induction cs generalizing s with
  | nil => simp only [dsC, Option.some.injEq] at h; subst h; exact h1
  | cons c cs ih =>
    simp only [dsC] at h
    cases e : dstp s c with
    | none => rw [e] at h; cases h
    | some s' =>
      rw [e, Option.bind_some] at h
      unfold dstp at e
      cases e2 : hstp (topH s) c with
      | none => rw [e2] at e; cases e
      | some x =>
        rw [e2] at e
        simp only [Option.map_some, Option.some.injEq] at e
        subst e
        have hx : x ≤ topH s + 1 := by
          unfold hstp at e2
          split at e2
          · simp only [Option.some.injEq] at e2; omega
          · cases e2
        simp only [List.length_cons] at h2
        exact ih h (by rw [mxL_snoc]; omega) (by rw [topH_snoc]; omega)
theorem stackO_le (cs : List Ins) : stackO cs ≤ cs.length := by
  cases h : dsC [] cs with
  | none => rw [stackO_none h]; omega
  | some ds => rw [stackO_some h]; exact mxL_le h (by simp [mxL]) (by simp [topH])
theorem stackO_take {cs : List Ins} (k : Nat) (h : stackO cs ≠ 0) : stackO (cs.take k) ≤ stackO cs := by
  cases hd : dsC [] cs with
  | none => exact absurd (stackO_none hd) h
  | some ds =>
    rw [stackO_some hd]
    have h2 := hd
    rw [← List.take_append_drop k cs, dsC_append] at h2
    cases hd2 : dsC [] (cs.take k) with
    | none => rw [stackO_none hd2]; omega
    | some d2 =>
      rw [hd2, Option.bind_some] at h2
      obtain ⟨r, hr⟩ := dsC_ext h2
      rw [stackO_some hd2, hr]
      exact mxL_append d2 r
theorem stackO_nil : stackO [] = 0 := rfl
/-- code that is valid leaves something on the stack -/
theorem stackO_pos {cs : List Ins} {vars defs : Int} (h : codeB cs vars defs = true) : 0 < stackO cs := by
  cases e : oneC cs with
  | none => rw [codeB_none e] at h; cases h
  | some t =>
    have h1 := oneC_some e
    have h2 := runC_ds [] [] cs rfl
    rw [h1] at h2
    cases hd : dsC [] cs with
    | none => rw [hd] at h2; cases h2
    | some ds =>
      rw [hd] at h2
      simp only [Option.map_some, Option.some.injEq, List.length_cons, List.length_nil] at h2
      rw [stackO_some hd]
      cases hl : ds.reverse with
      | nil =>
        have : ds = [] := by simpa using hl
        rw [this] at h2
        simp [topH] at h2
      | cons x r =>
        have : ds = r.reverse ++ [x] := by
          have := congrArg List.reverse hl
          simpa using this
        rw [this, topH_snoc] at h2
        rw [this, mxL_snoc]
        omega
theorem validB_wide {t : Tr} {v d v' d' : Int} (h : validB t v d = true) (hv : v ≤ v') (hd : d ≤ d') (hv4 : v' ≤ 4) (hd6 : d' ≤ 6) : validB t v' d' = true := by
  simp only [validB, Bool.and_eq_true, decide_eq_true_eq] at h ⊢
  obtain ⟨⟨a, b, c, e⟩, h1, h2⟩ := h
  exact ⟨⟨by omega, hv4, by omega, hd6⟩, shB_mono hv hd 16 t h1, h2⟩
theorem codeB_wide {cs : List Ins} {v d v' d' : Int} (h : codeB cs v d = true) (hv : v ≤ v') (hd : d ≤ d') (hv4 : v' ≤ 4) (hd6 : d' ≤ 6) : codeB cs v' d' = true := by
  have hl : cs.length ≤ 60 := by
    rcases Nat.lt_or_ge 60 cs.length with h2 | h2
    · rw [codeB_long h2] at h; cases h
    · exact h2
  cases e : oneC cs with
  | none => rw [codeB_none e] at h; cases h
  | some t =>
    rw [codeB_one e hl] at h ⊢
    exact validB_wide h hv hd hv4 hd6
theorem codeB_bnd {cs : List Ins} {v d : Int} (h : codeB cs v d = true) : 0 ≤ v ∧ v ≤ 4 ∧ 0 ≤ d ∧ d ≤ 6 := by
  cases e : oneC cs with
  | none => rw [codeB_none e] at h; cases h
  | some t =>
    have hl : cs.length ≤ 60 := by
      rcases Nat.lt_or_ge 60 cs.length with h2 | h2
      · rw [codeB_long h2] at h; cases h
      · exact h2
    rw [codeB_one e hl] at h
    simp only [validB, Bool.and_eq_true, decide_eq_true_eq] at h
    exact h.1
/-- valid with some variables and functions: valid with all, and the expression with some -/
theorem codeB_dec (cs : List Ins) (v d : Int) : codeB cs v d = ((decO cs 4 6).2 && validB (decO cs 4 6).1 v d) := by
  cases h : codeB cs 4 6 with
  | false =>
    rw [decO_false h]
    cases h2 : codeB cs v d with
    | false => rfl
    | true =>
      have hb := codeB_bnd h2
      rw [codeB_wide h2 hb.2.1 hb.2.2.2 (by omega) (by omega)] at h
      cases h
  | true =>
    obtain ⟨t, ht, hd⟩ := decO_true h
    have hl : cs.length ≤ 60 := by
      rcases Nat.lt_or_ge 60 cs.length with h2 | h2
      · rw [codeB_long h2] at h; cases h
      · exact h2
    rw [hd, codeB_one ht hl]
    rfl
end Go.Proofs.Ytekdipmioogohaa
/-
  PLAIN FACTS ON GRAPHS: which lists of cells are graphs; where indirections lead. No program is named here.
-/
namespace Go.Proofs.Ytekdipmioogohaa
set_option linter.unusedVariables false
set_option linter.unusedSimpArgs false

/-- how many operands a kind of cell has -/
def cArity (op : Int) : Int := if op = 11 then 1 else arity op
/-- are these cells of a graph? -/
def isAt (cells : Int) (k : Int) : Bool := decide (0 ≤ k ∧ k < cells)
/-- has a cell the fields of its kind, whatever its operands? -/
def fitsB (defs : Int) (c : Ce) : Bool := decide ((c.kids.length : Int) = cArity c.op) && ownB c.op c.num 0 defs
/-- is it a cell of a graph with some cells? -/
def cellB (cells defs : Int) (c : Ce) : Bool := fitsB defs c && c.kids.all (isAt cells)
def graphB (g : List Ce) (defs : Int) : Bool := decide ((g.length : Int) ≤ 400 ∧ 0 ≤ defs ∧ defs ≤ 6) && g.all (cellB g.length defs)

theorem ownB_var (n defs : Int) : ownB 1 n 0 defs = false := by unfold ownB; rw [if_pos rfl, decide_eq_false]; omega
theorem allI_take_succ {α : Type} (p : α → Bool) (l : List α) (i : Nat) (h : i < l.length) : (l.take (i + 1)).all p = ((l.take i).all p && p l[i]) := by
  rw [List.take_succ_eq_append_getElem h, List.all_append]; simp
theorem allI_false_of {α : Type} (p : α → Bool) (l : List α) (i : Nat) (h : i < l.length) (hp : p l[i] = false) : l.all p = false := by
  rw [List.all_eq_false]; exact ⟨l[i], List.getElem_mem h, by simp [hp]⟩

/-! ### Indirections -/
/-- the first operand -/
def kid0 (c : Ce) : Int := c.kids.getD 0 0
/-- the cell for which a cell stands -/
def nxt (g : List Ce) (a : Nat) : Nat := (kid0 (g.getD a ⟨0, 0, []⟩)).toNat
def opAt (g : List Ce) (a : Nat) : Int := (g.getD a ⟨0, 0, []⟩).op
/-- the first cell that is no indirection, after at most n looks -/
def followN (g : List Ce) : Nat → Nat → Option Nat
  | 0, _ => none
  | n + 1, a => if opAt g a = 11 then followN g n (nxt g a) else some a
/-- where n steps lead -/
def chase (g : List Ce) (a : Nat) : Nat → Nat
  | 0 => a
  | n + 1 => nxt g (chase g a n)
theorem chase_succ (g : List Ce) (a n : Nat) : chase g a (n + 1) = chase g (nxt g a) n := by
  induction n with
  | zero => rfl
  | succ n ih => rw [chase, ih]; rfl
theorem chase_add (g : List Ce) (a : Nat) (i k : Nat) : chase g a (i + k) = chase g (chase g a i) k := by
  induction k with
  | zero => rfl
  | succ k ih => rw [← Nat.add_assoc, chase, ih]; rfl
theorem followN_none {g : List Ce} : ∀ (n a : Nat), followN g n a = none → ∀ i, i < n → opAt g (chase g a i) = 11
  | 0, _, _, i, hi => absurd hi (by omega)
  | n + 1, a, h, i, hi => by
    unfold followN at h
    split at h
    · rename_i h1
      cases i with
      | zero => exact h1
      | succ i => rw [chase_succ]; exact followN_none n _ h i (by omega)
    · simp at h
/-- one more look -/
theorem followN_succ (g : List Ce) : ∀ (n a : Nat), followN g (n + 1) a = (followN g n a).or (if opAt g (chase g a n) = 11 then none else some (chase g a n))
  | 0, a => by rw [followN, followN, Option.none_or]; rfl
  | n + 1, a => by
    rw [followN]
    conv => rhs; rw [followN]
    split
    · rw [followN_succ g n (nxt g a), chase_succ]
    · simp

theorem pigeon : ∀ (n m : Nat) (f : Nat → Nat), (∀ i, i < m → f i < n) → (∀ i j, i < m → j < m → f i = f j → i = j) → m ≤ n
  | 0, m, f, hf, _ => by
    cases m with
    | zero => omega
    | succ m => exact absurd (hf 0 (by omega)) (by omega)
  | n + 1, 0, _, _, _ => by omega
  | n + 1, m + 1, f, hf, hi => by
    have := pigeon n m (fun i => if f i = n then f m else f i) (fun i h => by
      have h1 := hf i (by omega)
      have h2 := hf m (by omega)
      show (if f i = n then f m else f i) < n
      split
      · rename_i e
        have : f m ≠ n := fun e2 => by have := hi i m (by omega) (by omega) (by rw [e, e2]); omega
        omega
      · omega) (fun i j h1 h2 e => by
      have e : (if f i = n then f m else f i) = (if f j = n then f m else f j) := e
      split at e <;> split at e
      · rename_i a b; exact hi i j (by omega) (by omega) (by rw [a, b])
      · have := hi m j (by omega) (by omega) e; omega
      · have := hi i m (by omega) (by omega) e; omega
      · exact hi i j (by omega) (by omega) e)
    omega

theorem graphB_cell {g : List Ce} {defs : Int} (h : graphB g defs = true) (a : Nat) (ha : a < g.length) : cellB g.length defs g[a] = true := by
  unfold graphB at h
  simp only [Bool.and_eq_true, List.all_eq_true] at h
  exact h.2 _ (List.getElem_mem ha)
theorem graphB_len {g : List Ce} {defs : Int} (h : graphB g defs = true) : g.length ≤ 400 := by
  unfold graphB at h
  simp only [Bool.and_eq_true, decide_eq_true_eq] at h
  omega
theorem getD_at {α : Type} (g : List α) (d : α) (a : Nat) (ha : a < g.length) : g.getD a d = g[a] := by simp [ha]
/-- an indirection of a graph has one operand, a cell -/
theorem ind_kid {g : List Ce} {defs : Int} (h : graphB g defs = true) (a : Nat) (ha : a < g.length) (ho : g[a].op = 11) : ∃ k : Nat, g[a].kids = [(k : Int)] ∧ k < g.length ∧ nxt g a = k := by
  have hc := graphB_cell h a ha
  unfold cellB fitsB cArity at hc
  simp only [Bool.and_eq_true, decide_eq_true_eq, List.all_eq_true, isAt] at hc
  obtain ⟨⟨h1, -⟩, h3⟩ := hc
  rw [if_pos ho] at h1
  obtain ⟨x, hx⟩ : ∃ x, g[a].kids = [x] := by
    have h2 : g[a].kids.length = 1 := by omega
    revert h2
    generalize g[a].kids = l
    intro h2
    match l, h2 with
    | [x], _ => exact ⟨x, rfl⟩
  have h4 := h3 x (by rw [hx]; simp)
  refine ⟨x.toNat, by rw [hx]; simp; omega, by omega, ?_⟩
  unfold nxt kid0
  rw [getD_at _ _ _ ha, hx]
  rfl
theorem nxt_lt {g : List Ce} {defs : Int} (h : graphB g defs = true) (a : Nat) (ha : a < g.length) (ho : opAt g a = 11) : nxt g a < g.length := by
  unfold opAt at ho
  rw [getD_at _ _ _ ha] at ho
  obtain ⟨k, -, h2, h3⟩ := ind_kid h a ha ho
  omega
/-- as many looks as there are cells are enough -/
theorem follow_enough {g : List Ce} {defs : Int} (h : graphB g defs = true) (a : Nat) (ha : a < g.length) : followN g (g.length + 1) a = followN g g.length a := by
  rw [followN_succ]
  cases hf : followN g g.length a with
  | some b => rfl
  | none =>
    have hall := followN_none _ _ hf
    simp only [Option.none_or]
    split
    · rfl
    · rename_i hne
      exfalso
      have hlt : ∀ i, i ≤ g.length → chase g a i < g.length := by
        intro i
        induction i with
        | zero => intro _; exact ha
        | succ i ih => intro hi; rw [chase]; exact nxt_lt h _ (ih (by omega)) (hall i (by omega))
      have := pigeon g.length (g.length + 1) (chase g a) (fun i hi => hlt i (by omega)) (by
        have key : ∀ i j, i < j → j ≤ g.length → chase g a i ≠ chase g a j := by
          intro i j hij hj e
          have e1 : chase g a (i + (g.length - j)) = chase g a (j + (g.length - j)) := by rw [chase_add, chase_add, e]
          have e2 := hall (i + (g.length - j)) (by omega)
          rw [e1, show j + (g.length - j) = g.length by omega] at e2
          exact hne e2
        intro i j hi hj e
        rcases Nat.lt_trichotomy i j with h1 | h1 | h1
        · exact absurd e (key i j h1 (by omega))
        · exact h1
        · exact absurd e.symm (key j i h1 (by omega)))
      omega
/-- where a cell leads, or none -/
def followB (g : List Ce) (a : Int) : Option Nat := if graphB g 6 = true ∧ 0 ≤ a ∧ a < g.length then followN g g.length a.toNat else none
def folV (g : List Ce) (a : Int) : Int := match followB g a with | some b => (b : Int) | none => 0
def folB (g : List Ce) (a : Int) : Bool := (followB g a).isSome
theorem fol_no {g : List Ce} {a : Int} (h : ¬ (graphB g 6 = true ∧ 0 ≤ a ∧ a < g.length)) : folV g a = 0 ∧ folB g a = false := by
  unfold folV folB followB; rw [if_neg h]; exact ⟨rfl, rfl⟩
theorem fol_none {g : List Ce} {a : Int} (h : graphB g 6 = true ∧ 0 ≤ a ∧ a < g.length) (hf : followN g g.length a.toNat = none) : folV g a = 0 ∧ folB g a = false := by
  unfold folV folB followB; rw [if_pos h, hf]; exact ⟨rfl, rfl⟩
theorem fol_some {g : List Ce} {a : Int} (h : graphB g 6 = true ∧ 0 ≤ a ∧ a < g.length) {b : Nat} (hf : followN g g.length a.toNat = some b) : folV g a = b ∧ folB g a = true := by
  unfold folV folB followB; rw [if_pos h, hf]; exact ⟨rfl, rfl⟩
theorem followN_lt {g : List Ce} {defs : Int} (h : graphB g defs = true) : ∀ (n a b : Nat), a < g.length → followN g n a = some b → b < g.length ∧ opAt g b ≠ 11
  | 0, _, _, _, e => by simp [followN] at e
  | n + 1, a, b, ha, e => by
    unfold followN at e
    split at e
    · rename_i ho
      exact followN_lt h n _ b (nxt_lt h a ha ho) e
    · rename_i ho
      cases e
      exact ⟨ha, ho⟩
end Go.Proofs.Ytekdipmioogohaa
/-
  PLAIN FACTS ON WHAT CAN BE REACHED IN A GRAPH: the two searches (marked when taken from the work, marked when added to it), each with what holds behind every step. No program is named here.
-/
namespace Go.Proofs.Ytekdipmioogohaa
set_option linter.unusedVariables false
set_option linter.unusedSimpArgs false

/-- the operands of a cell, as places -/
def kidsN (g : List Ce) (a : Nat) : List Nat := (g.getD a ⟨0, 0, []⟩).kids.map Int.toNat
inductive Reach (g : List Ce) (r : Nat) : Nat → Prop
  | root : Reach g r r
  | kid (a k : Nat) : Reach g r a → k ∈ kidsN g a → Reach g r k

theorem arity_le (op : Int) : cArity op ≤ 3 := by unfold cArity arity; repeat' split; all_goals omega
theorem kids_graph {g : List Ce} {defs : Int} (h : graphB g defs = true) (a : Nat) (ha : a < g.length) : g[a].kids.length ≤ 3 ∧ ∀ k ∈ g[a].kids, 0 ≤ k ∧ k < g.length := by
  have hc := graphB_cell h a ha
  unfold cellB fitsB at hc
  simp only [Bool.and_eq_true, decide_eq_true_eq, List.all_eq_true, isAt] at hc
  obtain ⟨⟨h1, -⟩, h3⟩ := hc
  have := arity_le g[a].op
  exact ⟨by omega, h3⟩
theorem kidsN_at {g : List Ce} (a : Nat) (ha : a < g.length) : kidsN g a = g[a].kids.map Int.toNat := by unfold kidsN; rw [getD_at _ _ _ ha]
theorem kidsN_len {g : List Ce} {defs : Int} (h : graphB g defs = true) (a : Nat) (ha : a < g.length) : (kidsN g a).length ≤ 3 := by rw [kidsN_at a ha]; simpa using (kids_graph h a ha).1
theorem kidsN_lt {g : List Ce} {defs : Int} (h : graphB g defs = true) (a : Nat) (ha : a < g.length) (k : Nat) (hk : k ∈ kidsN g a) : k < g.length := by
  rw [kidsN_at a ha] at hk
  simp only [List.mem_map] at hk
  obtain ⟨x, hx, rfl⟩ := hk
  have := (kids_graph h a ha).2 x hx
  omega
/-- operand j, as a number -/
theorem kidsN_get {g : List Ce} {defs : Int} (h : graphB g defs = true) (a : Nat) (ha : a < g.length) (j : Nat) (hj : j < g[a].kids.length) : ∃ k : Nat, g[a].kids[j] = (k : Int) ∧ k < g.length ∧ (kidsN g a)[j]? = some k := by
  have h1 := (kids_graph h a ha).2 _ (List.getElem_mem hj)
  refine ⟨(g[a].kids[j]).toNat, by omega, by omega, ?_⟩
  rw [kidsN_at a ha]
  simp [hj]

def setF (f : Nat → Bool) (a : Nat) : Nat → Bool := fun b => if b = a then true else f b
theorem setF_same (f : Nat → Bool) (a : Nat) : setF f a a = true := by simp [setF]
theorem setF_of {f : Nat → Bool} {a b : Nat} (h : f b = true) : setF f a b = true := by unfold setF; split <;> simp_all
theorem setF_inv {f : Nat → Bool} {a b : Nat} (h : setF f a b = true) : b = a ∨ f b = true := by
  unfold setF at h; split at h
  · left; assumption
  · right; exact h
/-- how many places are not marked yet -/
def unset (f : Nat → Bool) : Nat → Nat
  | 0 => 0
  | n + 1 => unset f n + if f n then 0 else 1
theorem unset_le (f : Nat → Bool) : ∀ n, unset f n ≤ n
  | 0 => Nat.le_refl _
  | n + 1 => by have := unset_le f n; unfold unset; split <;> omega
theorem unset_out (f : Nat → Bool) (a : Nat) : ∀ n, n ≤ a → unset (setF f a) n = unset f n
  | 0, _ => rfl
  | n + 1, h => by
    have e : setF f a n = f n := by unfold setF; rw [if_neg (by omega)]
    unfold unset; rw [unset_out f a n (by omega), e]
theorem unset_set (f : Nat → Bool) (a : Nat) (hf : f a = false) : ∀ n, a < n → unset (setF f a) n + 1 = unset f n
  | 0, h => by omega
  | n + 1, h => by
    by_cases e : a = n
    · subst e
      unfold unset
      rw [unset_out f a a (Nat.le_refl _), setF_same, hf]
      simp
    · have e2 : setF f a n = f n := by unfold setF; rw [if_neg (by omega)]
      have := unset_set f a hf n (by omega)
      unfold unset; rw [e2]; omega

/-! ### The model's search: marked when it is taken -/
structure SInv (g : List Ce) (r : Nat) (f : Nat → Bool) (work : List Nat) : Prop where
  rt : f r = true ∨ r ∈ work
  fl : ∀ a, f a = true → Reach g r a ∧ a < g.length
  wk : ∀ a ∈ work, Reach g r a ∧ a < g.length
  cl : ∀ a, f a = true → ∀ k ∈ kidsN g a, f k = true ∨ k ∈ work
theorem SInv.start (g : List Ce) (r : Nat) (hr : r < g.length) : SInv g r (fun _ => false) [r] where
  rt := Or.inr (by simp)
  fl := by intro a h; cases h
  wk := by intro a h; simp only [List.mem_singleton] at h; subst h; exact ⟨.root, hr⟩
  cl := by intro a h; cases h
theorem SInv.old {g : List Ce} {r a : Nat} {f : Nat → Bool} {rest : List Nat} (h : SInv g r f (rest ++ [a])) (ha : f a = true) : SInv g r f rest where
  rt := by
    rcases h.rt with h1 | h1
    · exact Or.inl h1
    · rcases List.mem_append.1 h1 with h2 | h2
      · exact Or.inr h2
      · simp only [List.mem_singleton] at h2; subst h2; exact Or.inl ha
  fl := h.fl
  wk := fun b hb => h.wk b (List.mem_append_left _ hb)
  cl := fun b hb k hk => by
    rcases h.cl b hb k hk with h1 | h1
    · exact Or.inl h1
    · rcases List.mem_append.1 h1 with h2 | h2
      · exact Or.inr h2
      · simp only [List.mem_singleton] at h2; subst h2; exact Or.inl ha
theorem SInv.new {g : List Ce} {r a : Nat} {defs : Int} {f : Nat → Bool} {rest : List Nat} (hg : graphB g defs = true) (h : SInv g r f (rest ++ [a])) : SInv g r (setF f a) (rest ++ kidsN g a) := by
  have ha := h.wk a (List.mem_append_right _ (by simp))
  refine ⟨?_, fun b hb => ?_, fun b hb => ?_, fun b hb k hk => ?_⟩
  · rcases h.rt with h1 | h1
    · exact Or.inl (setF_of h1)
    · rcases List.mem_append.1 h1 with h2 | h2
      · exact Or.inr (List.mem_append_left _ h2)
      · simp only [List.mem_singleton] at h2; subst h2; exact Or.inl (setF_same _ _)
  · rcases setF_inv hb with rfl | h1
    · exact ha
    · exact h.fl b h1
  · rcases List.mem_append.1 hb with h1 | h1
    · exact h.wk b (List.mem_append_left _ h1)
    · exact ⟨.kid a b ha.1 h1, kidsN_lt hg a ha.2 b h1⟩
  · rcases setF_inv hb with rfl | h1
    · exact Or.inr (List.mem_append_right _ hk)
    · rcases h.cl b h1 k hk with h2 | h2
      · exact Or.inl (setF_of h2)
      · rcases List.mem_append.1 h2 with h3 | h3
        · exact Or.inr (List.mem_append_left _ h3)
        · simp only [List.mem_singleton] at h3; subst h3; exact Or.inl (setF_same _ _)
theorem SInv.done {g : List Ce} {r : Nat} {f : Nat → Bool} (h : SInv g r f []) (a : Nat) : f a = true ↔ Reach g r a := by
  refine ⟨fun h1 => (h.fl a h1).1, fun h1 => ?_⟩
  induction h1 with
  | root => rcases h.rt with h1 | h1; exact h1; simp at h1
  | kid a k _ hk ih => rcases h.cl a ih k hk with h1 | h1; exact h1; simp at h1

/-! ### The program's search: marked when it is added -/
structure IInv (g : List Ce) (r : Nat) (f : Nat → Bool) (work : List Nat) : Prop where
  rt : f r = true
  fl : ∀ a, f a = true → Reach g r a ∧ a < g.length
  wk : ∀ a ∈ work, f a = true
  cl : ∀ a, f a = true → a ∈ work ∨ ∀ k ∈ kidsN g a, f k = true
/-- .. in the middle of the operands of a cell -/
structure MInv (g : List Ce) (r : Nat) (f : Nat → Bool) (work : List Nat) (at' j : Nat) : Prop where
  rt : f r = true
  fl : ∀ a, f a = true → Reach g r a ∧ a < g.length
  wk : ∀ a ∈ work, f a = true
  me : f at' = true
  cl : ∀ a, f a = true → a ∈ work ∨ a = at' ∨ ∀ k ∈ kidsN g a, f k = true
  js : ∀ i, i < j → ∀ k, (kidsN g at')[i]? = some k → f k = true
theorem IInv.start (g : List Ce) (r : Nat) (hr : r < g.length) : IInv g r (setF (fun _ => false) r) [r] where
  rt := setF_same _ _
  fl := by intro a h; rcases setF_inv h with rfl | h; exact ⟨.root, hr⟩; cases h
  wk := by intro a h; simp only [List.mem_singleton] at h; subst h; exact setF_same _ _
  cl := by intro a h; rcases setF_inv h with rfl | h; exact Or.inl (by simp); cases h
theorem IInv.pop {g : List Ce} {r a : Nat} {f : Nat → Bool} {rest : List Nat} (h : IInv g r f (rest ++ [a])) : MInv g r f rest a 0 where
  rt := h.rt
  fl := h.fl
  wk := fun b hb => h.wk b (List.mem_append_left _ hb)
  me := h.wk a (List.mem_append_right _ (by simp))
  cl := fun b hb => by
    rcases h.cl b hb with h1 | h1
    · rcases List.mem_append.1 h1 with h2 | h2
      · exact Or.inl h2
      · simp only [List.mem_singleton] at h2; exact Or.inr (Or.inl h2)
    · exact Or.inr (Or.inr h1)
  js := fun i hi => absurd hi (by omega)
theorem MInv.old {g : List Ce} {r a j k : Nat} {f : Nat → Bool} {work : List Nat} (h : MInv g r f work a j) (hk : (kidsN g a)[j]? = some k) (hf : f k = true) : MInv g r f work a (j + 1) where
  rt := h.rt
  fl := h.fl
  wk := h.wk
  me := h.me
  cl := h.cl
  js := fun i hi x hx => by
    by_cases e : i = j
    · subst e; rw [hk] at hx; cases hx; exact hf
    · exact h.js i (by omega) x hx
theorem MInv.new {g : List Ce} {r a j k : Nat} {f : Nat → Bool} {work : List Nat} (h : MInv g r f work a j) (hk : (kidsN g a)[j]? = some k) (hl : k < g.length) : MInv g r (setF f k) (work ++ [k]) a (j + 1) where
  rt := setF_of h.rt
  fl := fun b hb => by
    rcases setF_inv hb with rfl | h1
    · exact ⟨.kid a b (h.fl a h.me).1 (List.mem_of_getElem? hk), hl⟩
    · exact h.fl b h1
  wk := fun b hb => by
    rcases List.mem_append.1 hb with h1 | h1
    · exact setF_of (h.wk b h1)
    · simp only [List.mem_singleton] at h1; subst h1; exact setF_same _ _
  me := setF_of h.me
  cl := fun b hb => by
    rcases setF_inv hb with rfl | h1
    · exact Or.inl (by simp)
    · rcases h.cl b h1 with h2 | h2 | h2
      · exact Or.inl (List.mem_append_left _ h2)
      · exact Or.inr (Or.inl h2)
      · exact Or.inr (Or.inr fun x hx => setF_of (h2 x hx))
  js := fun i hi x hx => by
    by_cases e : i = j
    · subst e; rw [hk] at hx; cases hx; exact setF_same _ _
    · exact setF_of (h.js i (by omega) x hx)
theorem MInv.done {g : List Ce} {r a j : Nat} {f : Nat → Bool} {work : List Nat} (h : MInv g r f work a j) (hj : (kidsN g a).length ≤ j) : IInv g r f work where
  rt := h.rt
  fl := h.fl
  wk := h.wk
  cl := fun b hb => by
    rcases h.cl b hb with h1 | h1 | h1
    · exact Or.inl h1
    · subst h1
      refine Or.inr fun k hk => ?_
      obtain ⟨i, hi, e⟩ := List.mem_iff_getElem.1 hk
      exact h.js i (by omega) k (by rw [List.getElem?_eq_getElem hi, e])
    · exact Or.inr h1
theorem IInv.done {g : List Ce} {r : Nat} {f : Nat → Bool} (h : IInv g r f []) (a : Nat) : f a = true ↔ Reach g r a := by
  refine ⟨fun h1 => (h.fl a h1).1, fun h1 => ?_⟩
  induction h1 with
  | root => exact h.rt
  | kid a k _ hk ih => rcases h.cl a ih with h1 | h1; simp at h1; exact h1 k hk

/-- marks that tell what can be reached -/
theorem reach_marks (g : List Ce) (r : Nat) : ∃ f : Nat → Bool, ∀ a, f a = true ↔ Reach g r a := by
  refine ⟨fun a => @decide (Reach g r a) (Classical.propDecidable _), fun a => ?_⟩
  simp
theorem marks_eq {g : List Ce} {r : Nat} {f f' : Nat → Bool} (h : ∀ a, f a = true ↔ Reach g r a) (h' : ∀ a, f' a = true ↔ Reach g r a) : f = f' := by
  funext a
  have e := (h a).trans (h' a).symm
  cases h1 : f a <;> cases h2 : f' a <;> simp_all

/-- the places that are marked, in their order -/
def numsN (f : Nat → Bool) : Nat → List Nat
  | 0 => []
  | n + 1 => if f n then numsN f n ++ [n] else numsN f n
theorem numsN_len (f : Nat → Bool) : ∀ n, (numsN f n).length ≤ n
  | 0 => by simp [numsN]
  | n + 1 => by have := numsN_len f n; unfold numsN; split <;> simp <;> omega
theorem numsN_yes {f : Nat → Bool} {n : Nat} (h : f n = true) : numsN f (n + 1) = numsN f n ++ [n] := by rw [numsN, if_pos h]
theorem numsN_no {f : Nat → Bool} {n : Nat} (h : f n = false) : numsN f (n + 1) = numsN f n := by rw [numsN, if_neg (by rw [h]; simp)]
def numsTo (f : Nat → Bool) (n : Nat) : List Int := (numsN f n).map fun (a : Nat) => (a : Int)
theorem numsTo_len (f : Nat → Bool) (n : Nat) : (numsTo f n).length ≤ n := by unfold numsTo; rw [List.length_map]; exact numsN_len f n
/-- what CellsFrom answers -/
def fromB (g : List Ce) (root : Int) (f : Nat → Bool) : List Int := if graphB g 6 = true ∧ isAt g.length root = true then numsTo f g.length else []
theorem fromB_len (g : List Ce) (root : Int) (f : Nat → Bool) : (fromB g root f).length ≤ g.length := by
  unfold fromB; split
  · exact numsTo_len f _
  · simp
theorem fromB_no {g : List Ce} {root : Int} {fl : Nat → Bool} (h : ¬ (graphB g 6 = true ∧ isAt g.length root = true)) : fromB g root fl = [] := by unfold fromB; rw [if_neg h]
theorem fromB_yes {g : List Ce} {root : Int} {fl : Nat → Bool} (h : graphB g 6 = true ∧ isAt g.length root = true) : fromB g root fl = numsTo fl g.length := by unfold fromB; rw [if_pos h]
theorem take_snoc {l : List Nat} {j k : Nat} (h : l[j]? = some k) : l.take (j + 1) = l.take j ++ [k] := by
  have hj := (List.getElem?_eq_some_iff.1 h).1
  have e := (List.getElem?_eq_some_iff.1 h).2
  rw [List.take_succ_eq_append_getElem hj, e]
end Go.Proofs.Ytekdipmioogohaa
/-
  A STACK OF PLACES (a slice of ints that a call owns) AND MARKS (a row of bools).
-/
namespace Go.Proofs.Ytekdipmioogohaa
set_option linter.unusedVariables false
set_option linter.unusedSimpArgs false
open Go.RowKit

theorem infoI1 : ∃ i z, Try.prog.info? 3 = some i ∧ i.zero = some z ∧ i.size = 1 ∧ i.bytes = 8 ∧ z.cells.size = 1 := by
  obtain ⟨i, hi, hzz⟩ := Option.map_eq_some_iff.1 infoI
  simp only [Prod.mk.injEq] at hzz
  obtain ⟨hz, hs, hb⟩ := hzz
  exact ⟨i, _, hi, hz, hs, hb, rfl⟩
/-- places, as numbers -/
def plI (ws : List Nat) : List Int := ws.map fun (a : Nat) => (a : Int)
theorem plI_length (ws : List Nat) : (plI ws).length = ws.length := by simp [plI]
/-- places, as values -/
def plV (ws : List Nat) : List Value := ws.map fun (a : Nat) => Value.int .i64 (a : Int)
theorem plV_length (ws : List Nat) : (plV ws).length = ws.length := by simp [plV]
theorem plV_one (ws : List Nat) : ∀ u ∈ plV ws, u.oneCell' = true := by
  intro u hu
  simp only [plV, List.mem_map] at hu
  obtain ⟨a, -, rfl⟩ := hu
  rfl
def Stk (w : World) (lo : Nat) (ws : List Nat) (v : Value) : Prop := w.ownsRow lo 3 1 v ws.length (plV ws)
theorem Stk.keep {w w' : World} {lo : Nat} {ws : List Nat} {v : Value} (h : Stk w lo ws v) (hk : ∀ k, lo ≤ k → k < w.heap.size → w'.heap[k]? = w.heap[k]?) : Stk w' lo ws v := by
  refine ⟨h.1, ?_⟩
  rcases h.2 with h | ⟨g, cap, cur, rfl, hg, hh, r⟩
  · exact Or.inl h
  · exact Or.inr ⟨g, cap, cur, rfl, hg, (hk g hg (Array.getElem?_eq_some_iff.1 hh).1).trans hh, r⟩
theorem Stk.top {w : World} {lo : Nat} {ws : List Nat} {a : Nat} {v : Value} (h : Stk w lo (ws ++ [a]) v) :
    ∃ g cap, v = .slice (some ⟨g, 0, none⟩) (ws.length + 1) cap ∧ lo ≤ g ∧ g < w.heap.size ∧ ws.length + 1 ≤ cap ∧ cap ≤ maxLen ∧ w.cell? ⟨g, ws.length, none⟩ = some (.int .i64 (a : Int)) ∧ Stk w lo ws (.slice (some ⟨g, 0, none⟩) ws.length cap) := by
  obtain ⟨h1, h2⟩ := h
  rcases h2 with ⟨-, h0⟩ | ⟨g, cap, cur, hv, hg, hh, hn, hc, hs, htk⟩
  · simp at h0
  · simp only [List.length_append, List.length_cons, List.length_nil, Nat.zero_add] at hv hn htk
    simp only [Nat.mul_one] at hs htk
    have hlt : ws.length < cur.size := by omega
    have e1 : (cur.toList.take (ws.length + 1))[ws.length]? = (plV (ws ++ [a]))[ws.length]? := by rw [htk]
    have e2 : cur.toList.take ws.length = plV ws := by
      have := congrArg (List.take ws.length) htk
      rw [List.take_take, Nat.min_eq_left (by omega)] at this
      rw [this]
      simp [plV]
    refine ⟨g, cap, hv, hg, (Array.getElem?_eq_some_iff.1 hh).1, hn, hc, ?_, by rw [plV_length]; omega, Or.inr ⟨g, cap, cur, rfl, hg, hh, by omega, hc, by omega, by rw [Nat.mul_one]; exact e2⟩⟩
    simp only [World.cell?, hh]
    rw [List.getElem?_take_of_lt (by omega)] at e1
    have e3 : (plV (ws ++ [a]))[ws.length]? = some (.int .i64 (a : Int)) := by simp [plV]
    rw [e3] at e1
    simpa using e1
theorem own_lo {w : World} {base n size : Nat} {e : TypeId} {v : Value} {xs : List Value} (h : w.ownsRow base e size v n xs) {k : Nat} (hk : some k = v.ownBlock) : base ≤ k := by
  rcases h.2 with ⟨rfl, -⟩ | ⟨g, cap, cur, rfl, hg, -⟩
  · simp [Value.ownBlock] at hk
  · simp only [Value.ownBlock, Option.some.injEq] at hk
    omega
theorem Stk.nil {w : World} {lo : Nat} {v : Value} {n : Nat} (h : Stk w lo [] v) : ∃ ad cap, v = .slice ad 0 cap := by
  rcases h.2 with ⟨rfl, -⟩ | ⟨g, cap, cur, rfl, -⟩
  · exact ⟨_, _, rfl⟩
  · exact ⟨_, _, rfl⟩
theorem Stk.len {w : World} {lo : Nat} {ws : List Nat} {v : Value} (h : Stk w lo ws v) : ∃ ad cap, v = .slice ad ws.length cap := by
  rcases h.2 with ⟨rfl, h0⟩ | ⟨g, cap, cur, rfl, -⟩
  · exact ⟨none, 0, by rw [h0]⟩
  · exact ⟨_, _, rfl⟩
/-- a new row of one place -/
theorem Stk.one (w : World) (lo : Nat) (a : Nat) (h : lo ≤ w.heap.size) : Stk (w.alloc (.cells #[.int .i64 (a : Int)] 3)) lo [a] (.slice (some ⟨w.heap.size, 0, none⟩) 1 1) :=
  ⟨rfl, Or.inr ⟨w.heap.size, 1, _, rfl, h, Deep.blk_alloc_new _ _, Nat.le_refl _, by simp [maxLen], rfl, rfl⟩⟩

theorem Stk.row {w : World} {lo : Nat} {ws : List Nat} {v : Value} (h : Stk w lo ws v) : IntRow w lo (ws.map fun (a : Nat) => (a : Int)) v := by
  rcases h.2 with ⟨rfl, h0⟩ | ⟨g, cap, cur, rfl, hg, hh, hn, hc, hs, htk⟩
  · obtain rfl : ws = [] := List.eq_nil_of_length_eq_zero h0
    exact IntRow.none _ _
  · rw [Nat.mul_one] at hs htk
    refine ⟨_, cap, by rw [List.length_map], by rw [List.length_map]; exact hn, hc, Or.inr ⟨g, fun i => cur.getD i undef, rfl, hg, ⟨cur, hh, hs, fun i hi => ?_⟩, fun i hi => ?_⟩⟩
    · have hi' : i < cur.size := by omega
      simp [Array.getD, hi']
    · rw [List.length_map] at hi
      have hi' : i < cur.size := by omega
      have e1 : (cur.toList.take ws.length)[i]? = (plV ws)[i]? := by rw [htk]
      rw [List.getElem?_take_of_lt hi] at e1
      have e2 : (plV ws)[i]? = some (.int .i64 (ws[i] : Int)) := by simp [plV, hi]
      rw [e2] at e1
      simp [Array.getD, hi'] at e1 ⊢
      exact e1
/-- one place in a new block, as a slice that is appended -/
theorem one_in (w : World) (a : Nat) : IIn (w.alloc (.cells #[.int .i64 (a : Int)] 3)) [(a : Int)] (.slice (some ⟨w.heap.size, 0, none⟩) 1 1) := by
  refine ⟨_, 1, rfl, Nat.le_refl _, by simp [maxLen], Or.inr ⟨_, 0, rfl, by show w.heap.size < _; rw [Deep.nblk_alloc]; omega, fun i hi => ?_⟩⟩
  obtain rfl : i = 0 := by simp at hi; omega
  exact box_cell w #[.int .i64 (a : Int)] 3 0 _ rfl
theorem Stk.alloc {w : World} {lo : Nat} {ws : List Nat} {v : Value} (h : Stk w lo ws v) (o : Obj) : Stk (w.alloc o) lo ws v := h.keep fun k _ hk => Deep.blk_alloc_lt _ _ _ hk

/-- the operands of a cell, as values -/
theorem ints_news {w : World} {xs : List Int} {ws : List Nat} {ad : Addr} {n cap : Nat} (h : IIn w xs (.slice (some ad) n cap)) (hx : xs = ws.map fun (a : Nat) => (a : Int)) : ∀ j u, (plV ws)[j]? = some u → w.cell? (ad.add j) = some u := by
  intro j u hu
  subst hx
  obtain ⟨ad', cap', he, -, -, hr⟩ := h
  simp only [Value.slice.injEq, Option.some.injEq] at he
  obtain ⟨rfl, -, -⟩ := he
  have hj : j < ws.length := by
    rcases Nat.lt_or_ge j ws.length with h | h
    · exact h
    · rw [List.getElem?_eq_none (by rw [plV_length]; exact h)] at hu; cases hu
  rcases hr with hnil | ⟨bl, off, e, -, hr⟩
  · simp at hnil; subst hnil; simp at hj
  · simp only [Option.some.injEq] at e
    subst e
    rw [WideShapes.add_plain]
    have := hr j (by simpa using hj)
    rw [this]
    simp [plV, hj] at hu
    simpa using hu
theorem kids_back {g : List Ce} {defs : Int} (h : graphB g defs = true) (a : Nat) (ha : a < g.length) : g[a].kids = (kidsN g a).map fun (a : Nat) => (a : Int) := by
  rw [kidsN_at a ha, List.map_map]
  refine List.ext_getElem (by simp) fun i h1 h2 => ?_
  have := (kids_graph h a ha).2 _ (List.getElem_mem h1)
  simp
  omega
theorem split_last {α : Type} (l : List α) (h : 0 < l.length) : ∃ r a, l = r ++ [a] := by
  have hne : l ≠ [] := by intro e; subst e; simp at h
  exact ⟨l.dropLast, l.getLast hne, (List.dropLast_concat_getLast hne).symm⟩

/-- append of places to a stack, out of any slice of ints -/
theorem run_push (w : World) (lo : Nat) (ws news : List Nat) (v x : Value) (ty : TypeId) (hst : Stk w lo ws v) {xs : List Int} (hx : IIn w xs x) (hxs : xs = news.map fun (a : Nat) => (a : Int)) (hlo : lo ≤ w.heap.size) (hb : ws.length + news.length ≤ 1048576) :
    ∃ v' w', (Builtin.append_ #[44, 44] ty #[v, x]).run Try.prog w = .ok v' w' ∧ Stk w' lo (ws ++ news) v' ∧ w.grownBy w' v.ownBlock := by
  obtain ⟨i, z, hi, hz, hs, hby, hzs⟩ := infoI1
  have hlen : xs.length = news.length := by rw [hxs]; simp
  have hx2 := hx
  obtain ⟨ad, cap, rfl, -, -, hr⟩ := hx2
  rcases ad with _ | ad
  · have hnil : news = [] := by
      rcases hr with h | ⟨_, _, h, -⟩
      · rw [h] at hlen; exact List.eq_nil_of_length_eq_zero hlen.symm
      · simp at h
    subst hnil
    rw [hlen]
    refine ⟨v, w, ?_, by simpa using hst, ⟨rfl, rfl, rfl, Nat.le_refl _, fun _ _ _ => rfl⟩⟩
    rcases hst.2 with ⟨rfl, h0⟩ | ⟨g, cap, cur, rfl, _, _, hnc, _⟩
    · simp [Builtin.append_, run_underlying Try.underlying44, sizeOf, typeInfo, hi, Builtin.lenOf, Builtin.firstCells]
    · simp [Builtin.append_, run_underlying Try.underlying44, sizeOf, typeInfo, hi, Builtin.lenOf, Builtin.firstCells, hnc, storeCells]
  · obtain ⟨v', w', hrun, hown, hg, -⟩ := run_append_own (P := Try.prog) w lo 44 ty 3 i z 1 8 Try.underlying44 hi hz hs hby hzs (by decide) v ws.length (plV ws) hst ad news.length cap (plV news) (by rw [plV_length, Nat.mul_one]) (ints_news hx hxs) (plV_one _) (by unfold maxLen; omega) (by omega) hlo
    rw [← hlen] at hrun
    refine ⟨v', w', hrun, ?_, hg⟩
    unfold Stk
    have e : plV (ws ++ news) = plV ws ++ plV news := by simp [plV]
    rw [e, List.length_append]
    exact hown
theorem wpList_push {ops : Array Oper} {rest : List Oper} {o : Oper} {a : Act} {Q : Exit → Act → World → Prop} (hgd : o.guard = none) (s x : Operand)
    (ho : o.op = .call { callee := .builtin .append, args := #[s, x], argTypes := #[44, 44] })
    (w : World) (lo : Nat) (ws news : List Nat) (v xv : Value) (hs : a.eval s = v) (hst : Stk w lo ws v) (hxe : a.eval x = xv) {xs : List Int} (hx : IIn w xs xv) (hxs : xs = news.map fun (a : Nat) => (a : Int)) (hlo : lo ≤ w.heap.size) (hb : ws.length + news.length ≤ 1048576)
    (h : ∀ v' w', Stk w' lo (ws ++ news) v' → w.grownBy w' v.ownBlock → wpList Try.prog ops Q rest (a.put o.dst v') w') : wpList Try.prog ops Q (o :: rest) a w := by
  refine wpList_plain hgd fun K hK => ?_
  obtain ⟨v', w', hrun, h2, h3⟩ := run_push w lo ws news v xv o.type hst hx hxs hlo hb
  unfold Oper.wp
  simp [execOp, ho, resolve, invoke, builtin, hs, hxe, hrun, Result.andThen]
  exact hK _ _ (h v' w' h2 h3)

/-- no numbers, in whatever block -/
theorem no_ints (w : World) (lo : Nat) (ad : Option Addr) (cap : Nat) (h : cap ≤ maxLen) : IntRow w lo [] (.slice ad 0 cap) := ⟨ad, cap, rfl, Nat.zero_le _, h, Or.inl rfl⟩
end Go.Proofs.Ytekdipmioogohaa
/-
  A SLICE OF INTS THAT A CALL OWNS, to which it appends: any numbers.
-/
namespace Go.Proofs.Ytekdipmioogohaa
set_option linter.unusedVariables false
set_option linter.unusedSimpArgs false
open Go.RowKit

/-- numbers, as values -/
def inV (xs : List Int) : List Value := xs.map fun a => Value.int .i64 a
theorem inV_length (xs : List Int) : (inV xs).length = xs.length := by simp [inV]
theorem inV_append (xs ys : List Int) : inV (xs ++ ys) = inV xs ++ inV ys := by simp [inV]
theorem inV_one (xs : List Int) : ∀ u ∈ inV xs, u.oneCell' = true := by
  intro u hu
  simp only [inV, List.mem_map] at hu
  obtain ⟨a, -, rfl⟩ := hu
  rfl
def StkI (w : World) (lo : Nat) (xs : List Int) (v : Value) : Prop := w.ownsRow lo 3 1 v xs.length (inV xs)
theorem StkI.keep {w w' : World} {lo : Nat} {xs : List Int} {v : Value} (h : StkI w lo xs v) (hk : ∀ k, lo ≤ k → k < w.heap.size → w'.heap[k]? = w.heap[k]?) : StkI w' lo xs v := by
  refine ⟨h.1, ?_⟩
  rcases h.2 with h | ⟨g, cap, cur, rfl, hg, hh, r⟩
  · exact Or.inl h
  · exact Or.inr ⟨g, cap, cur, rfl, hg, (hk g hg (Array.getElem?_eq_some_iff.1 hh).1).trans hh, r⟩
theorem StkI.next {w w' : World} {lo : Nat} {xs : List Int} {v : Value} (h : StkI w lo xs v) (hb : Below w.heap.size w w') : StkI w' lo xs v := h.keep fun k _ hk => hb.block k hk
theorem StkI.lower {w : World} {lo lo' : Nat} {xs : List Int} {v : Value} (h : StkI w lo xs v) (hl : lo' ≤ lo) : StkI w lo' xs v := by
  refine ⟨h.1, ?_⟩
  rcases h.2 with h | ⟨g, cap, cur, rfl, hg, r⟩
  · exact Or.inl h
  · exact Or.inr ⟨g, cap, cur, rfl, Nat.le_trans hl hg, r⟩
theorem StkI.len {w : World} {lo : Nat} {xs : List Int} {v : Value} (h : StkI w lo xs v) : ∃ ad cap, v = .slice ad xs.length cap := by
  rcases h.2 with ⟨rfl, h0⟩ | ⟨g, cap, cur, rfl, -⟩
  · exact ⟨none, 0, by rw [h0]⟩
  · exact ⟨_, _, rfl⟩
theorem StkI.form {w : World} {lo : Nat} {xs : List Int} {v : Value} (h : StkI w lo xs v) : ∃ ad n cap, v = .slice ad n cap := by
  obtain ⟨ad, cap, e⟩ := h.len
  exact ⟨ad, _, cap, e⟩
theorem StkI.eq_len {w : World} {lo : Nat} {xs : List Int} {ad : Option Addr} {n cap : Nat} (h : StkI w lo xs (.slice ad n cap)) : n = xs.length := by
  obtain ⟨_, _, e⟩ := h.len
  simp only [Value.slice.injEq] at e
  exact e.2.1
/-- no numbers yet, in a new block -/
theorem StkI.nil (w : World) (lo : Nat) (h : lo ≤ w.heap.size) : StkI (w.alloc (.cells #[] 3)) lo [] (.slice (some ⟨w.heap.size, 0, none⟩) 0 0) :=
  ⟨rfl, Or.inr ⟨w.heap.size, 0, _, rfl, h, Deep.blk_alloc_new _ _, Nat.le_refl _, by simp [maxLen], rfl, rfl⟩⟩
theorem StkI.none (w : World) (lo : Nat) : StkI w lo [] (.slice none 0 0) := ⟨rfl, Or.inl ⟨rfl, rfl⟩⟩
theorem StkI.row {w : World} {lo : Nat} {xs : List Int} {v : Value} (h : StkI w lo xs v) : IntRow w lo xs v := by
  rcases h.2 with ⟨rfl, h0⟩ | ⟨g, cap, cur, rfl, hg, hh, hn, hc, hs, htk⟩
  · obtain rfl : xs = [] := List.eq_nil_of_length_eq_zero h0
    exact IntRow.none _ _
  · rw [Nat.mul_one] at hs htk
    refine ⟨_, cap, rfl, hn, hc, Or.inr ⟨g, fun i => cur.getD i undef, rfl, hg, ⟨cur, hh, hs, fun i hi => ?_⟩, fun i hi => ?_⟩⟩
    · have hi' : i < cur.size := by omega
      simp [Array.getD, hi']
    · have hi' : i < cur.size := by omega
      have e1 : (cur.toList.take xs.length)[i]? = (inV xs)[i]? := by rw [htk]
      rw [List.getElem?_take_of_lt hi] at e1
      have e2 : (inV xs)[i]? = some (.int .i64 xs[i]) := by simp [inV, hi]
      rw [e2] at e1
      simp [Array.getD, hi'] at e1 ⊢
      exact e1
theorem StkI.alloc {w : World} {lo : Nat} {xs : List Int} {v : Value} (h : StkI w lo xs v) (o : Obj) : StkI (w.alloc o) lo xs v := h.keep fun k _ hk => Deep.blk_alloc_lt _ _ _ hk
theorem StkI.drew {w : World} {lo : Nat} {xs : List Int} {v : Value} (h : StkI w lo xs v) : StkI w.drew lo xs v := h.keep fun _ _ _ => rfl
/-- one number in a new block, as a slice that is appended -/
theorem oneI_in (w : World) (a : Int) : IIn (w.alloc (.cells #[.int .i64 a] 3)) [a] (.slice (some ⟨w.heap.size, 0, none⟩) 1 1) := by
  refine ⟨_, 1, rfl, Nat.le_refl _, by simp [maxLen], Or.inr ⟨_, 0, rfl, by show w.heap.size < _; rw [Deep.nblk_alloc]; omega, fun i hi => ?_⟩⟩
  obtain rfl : i = 0 := by simp at hi; omega
  exact box_cell w #[.int .i64 a] 3 0 _ rfl
theorem ints_newsI {w : World} {xs : List Int} {ad : Addr} {n cap : Nat} (h : IIn w xs (.slice (some ad) n cap)) : ∀ j u, (inV xs)[j]? = some u → w.cell? (ad.add j) = some u := by
  intro j u hu
  obtain ⟨ad', cap', he, -, -, hr⟩ := h
  simp only [Value.slice.injEq, Option.some.injEq] at he
  obtain ⟨rfl, -, -⟩ := he
  have hj : j < xs.length := by
    rcases Nat.lt_or_ge j xs.length with h | h
    · exact h
    · rw [List.getElem?_eq_none (by rw [inV_length]; exact h)] at hu; cases hu
  rcases hr with hnil | ⟨bl, off, e, -, hr⟩
  · subst hnil; simp at hj
  · simp only [Option.some.injEq] at e
    subst e
    rw [WideShapes.add_plain]
    have := hr j hj
    rw [this]
    simp [inV, hj] at hu
    simpa using hu

/-- append of numbers, out of any slice of ints -/
theorem run_pushI (w : World) (lo : Nat) (xs news : List Int) (v x : Value) (ty : TypeId) (hst : StkI w lo xs v) (hx : IIn w news x) (hlo : lo ≤ w.heap.size) (hb : xs.length + news.length ≤ 1048576) :
    ∃ v' w', (Builtin.append_ #[44, 44] ty #[v, x]).run Try.prog w = .ok v' w' ∧ StkI w' lo (xs ++ news) v' ∧ w.grownBy w' v.ownBlock := by
  obtain ⟨i, z, hi, hz, hs, hby, hzs⟩ := infoI1
  have hx2 := hx
  obtain ⟨ad, cap, rfl, -, -, hr⟩ := hx2
  rcases ad with _ | ad
  · have hnil : news = [] := by
      rcases hr with h | ⟨_, _, h, -⟩
      · exact h
      · simp at h
    subst hnil
    refine ⟨v, w, ?_, by simpa using hst, ⟨rfl, rfl, rfl, Nat.le_refl _, fun _ _ _ => rfl⟩⟩
    rcases hst.2 with ⟨rfl, h0⟩ | ⟨g, cap, cur, rfl, _, _, hnc, _⟩
    · simp [Builtin.append_, run_underlying Try.underlying44, sizeOf, typeInfo, hi, Builtin.lenOf, Builtin.firstCells]
    · simp [Builtin.append_, run_underlying Try.underlying44, sizeOf, typeInfo, hi, Builtin.lenOf, Builtin.firstCells, hnc, storeCells]
  · obtain ⟨v', w', hrun, hown, hg, -⟩ := run_append_own (P := Try.prog) w lo 44 ty 3 i z 1 8 Try.underlying44 hi hz hs hby hzs (by decide) v xs.length (inV xs) hst ad news.length cap (inV news) (by rw [inV_length, Nat.mul_one]) (ints_newsI hx) (inV_one _) (by unfold maxLen; omega) (by omega) hlo
    refine ⟨v', w', hrun, ?_, hg⟩
    unfold StkI
    rw [inV_append, List.length_append]
    exact hown
theorem wpList_pushI {ops : Array Oper} {rest : List Oper} {o : Oper} {a : Act} {Q : Exit → Act → World → Prop} (hgd : o.guard = none) (s x : Operand)
    (ho : o.op = .call { callee := .builtin .append, args := #[s, x], argTypes := #[44, 44] })
    (w : World) (lo : Nat) (xs news : List Int) (v xv : Value) (hs : a.eval s = v) (hst : StkI w lo xs v) (hxe : a.eval x = xv) (hx : IIn w news xv) (hlo : lo ≤ w.heap.size) (hb : xs.length + news.length ≤ 1048576)
    (h : ∀ v' w', StkI w' lo (xs ++ news) v' → w.grownBy w' v.ownBlock → wpList Try.prog ops Q rest (a.put o.dst v') w') : wpList Try.prog ops Q (o :: rest) a w := by
  refine wpList_plain hgd fun K hK => ?_
  obtain ⟨v', w', hrun, h2, h3⟩ := run_pushI w lo xs news v xv o.type hst hx hlo hb
  unfold Oper.wp
  simp [execOp, ho, resolve, invoke, builtin, hs, hxe, hrun, Result.andThen]
  exact hK _ _ (h v' w' h2 h3)
/-- a world after an append to a row of one's own -/
theorem StkI.grown {lo : Nat} {w0 w w' : World} {xs : List Int} {v : Value} (hst : StkI w lo xs v) (hl : lo = w0.heap.size) (hb : Below w0.heap.size w0 w) (hg : w.grownBy w' v.ownBlock) : Below w0.heap.size w0 w' :=
  ⟨by rw [hg.os]; exact hb.os, by rw [hg.tape]; exact hb.tape, by rw [hg.output]; exact hb.output, Nat.le_trans hb.size hg.size, fun k hk => (hg.block k (Nat.lt_of_lt_of_le hk hb.size) (fun e => by have := own_lo hst e; omega)).trans (hb.block k hk)⟩
/-- what lies below the row stays by an append -/
theorem StkI.far {lo : Nat} {w w' : World} {xs : List Int} {v : Value} (hst : StkI w lo xs v) (hg : w.grownBy w' v.ownBlock) {k : Nat} (hk : k < w.heap.size) (hl : k < lo) : w'.heap[k]? = w.heap[k]? :=
  hg.block k hk (fun e => by have := own_lo hst e; omega)
/-- .. as one step of a region that draws its order -/
theorem step_pushI {ops : Array Oper} {o : Oper} {a : Act} {w : World} {K : Act → World → Prop} {Q : Exit → Act → World → Prop} {E : Prop} (hgd : o.guard = none) (s x : Operand)
    (ho : o.op = .call { callee := .builtin .append, args := #[s, x], argTypes := #[44, 44] })
    (lo : Nat) (xs news : List Int) (v xv : Value) (hs : a.eval s = v) (hst : StkI w lo xs v) (hxe : a.eval x = xv) (hx : IIn w news xv) (hlo : lo ≤ w.heap.size) (hb : xs.length + news.length ≤ 1048576)
    (h : ∀ v' w', StkI w' lo (xs ++ news) v' → w.grownBy w' v.ownBlock → K (a.put o.dst v') w') : if Region.wanted o (yielded ops a.tmps) = true then Oper.wp Try.prog o a w K Q else E := by
  have hw : Region.wanted o (yielded ops a.tmps) = true := by simp [Region.wanted, hgd]
  rw [if_pos hw]
  obtain ⟨v', w', hrun, h2, h3⟩ := run_pushI w lo xs news v xv o.type hst hx hlo hb
  unfold Oper.wp
  simp [execOp, ho, resolve, invoke, builtin, hs, hxe, hrun, Result.andThen]
  exact h _ _ h2 h3
/-- a block of another type stays by an append -/
theorem StkI.box {lo B : Nat} {w w' : World} {xs : List Int} {v : Value} {cs : Array Value} {T : TypeId} (hst : StkI w lo xs v) (hX : w.heap[B]? = some (.cells cs T)) (hT : T ≠ 3) (hg : w.grownBy w' v.ownBlock) : w'.heap[B]? = some (.cells cs T) := by
  refine (hg.block B (Array.getElem?_eq_some_iff.1 hX).1 fun e => ?_).trans hX
  rcases hst.2 with ⟨rfl, -⟩ | ⟨g, cap, cur, rfl, -, hh, -⟩
  · simp [Value.ownBlock] at e
  · simp only [Value.ownBlock, Option.some.injEq] at e
    subst e
    rw [hX] at hh
    simp only [Option.some.injEq, Obj.cells.injEq] at hh
    exact hT hh.2.1
end Go.Proofs.Ytekdipmioogohaa
/-
  THE PROGRAM's ExprValid (opOf, nodeOf, the four kinds' fits, nodesLeft, ExprValid): which trees it takes for valid; nothing that was there is changed.
-/
namespace Go.Proofs.Ytekdipmioogohaa
set_option linter.unusedVariables false
set_option linter.unusedSimpArgs false
open Go.RowKit

/-- how nodes of a kind with operands are written -/
def opKids (op : Int) : Int := if op = 4 then 2 else if op = 5 then 2 else if op = 6 then 1 else if op = 7 then 1 else if op = 8 then 2 else if op = 9 then 2 else if op = 10 then 3 else 0
def opMarks (op : Int) : ByteArray := if op = 4 then ⟨#[40, 32, 41]⟩ else if op = 5 then ⟨#[60, 44, 62]⟩ else if op = 6 then ⟨#[126]⟩ else if op = 7 then ⟨#[94]⟩ else if op = 8 then ⟨#[40, 43, 41]⟩ else if op = 9 then ⟨#[40, 45, 41]⟩ else if op = 10 then ⟨#[91, 63, 58, 93]⟩ else ⟨#[]⟩
def opOk (op : Int) : Bool := decide (4 ≤ op ∧ op ≤ 10)

/-- opOf has handed back the row of a kind -/
def OpRow (op : Int) (w : World) (e : Ending) (w' : World) : Prop := e = .returned (.tuple #[.agg #[.int .i64 (opKids op), .string (opMarks op)], .bool (opOk op)]) ∧ Below w.heap.size w w'

theorem opRow_4 {op : Int} (h : (op == 4) = true) : opKids op = 2 ∧ opMarks op = ⟨#[40, 32, 41]⟩ ∧ opOk op = true := by
  have e : op = 4 := by simpa using h
  subst e
  exact ⟨rfl, rfl, rfl⟩
theorem opRow_5 {op : Int} (h : (op == 5) = true) : opKids op = 2 ∧ opMarks op = ⟨#[60, 44, 62]⟩ ∧ opOk op = true := by
  have e : op = 5 := by simpa using h
  subst e
  exact ⟨rfl, rfl, rfl⟩
theorem opRow_6 {op : Int} (h : (op == 6) = true) : opKids op = 1 ∧ opMarks op = ⟨#[126]⟩ ∧ opOk op = true := by
  have e : op = 6 := by simpa using h
  subst e
  exact ⟨rfl, rfl, rfl⟩
theorem opRow_7 {op : Int} (h : (op == 7) = true) : opKids op = 1 ∧ opMarks op = ⟨#[94]⟩ ∧ opOk op = true := by
  have e : op = 7 := by simpa using h
  subst e
  exact ⟨rfl, rfl, rfl⟩
theorem opRow_8 {op : Int} (h : (op == 8) = true) : opKids op = 2 ∧ opMarks op = ⟨#[40, 43, 41]⟩ ∧ opOk op = true := by
  have e : op = 8 := by simpa using h
  subst e
  exact ⟨rfl, rfl, rfl⟩
theorem opRow_9 {op : Int} (h : (op == 9) = true) : opKids op = 2 ∧ opMarks op = ⟨#[40, 45, 41]⟩ ∧ opOk op = true := by
  have e : op = 9 := by simpa using h
  subst e
  exact ⟨rfl, rfl, rfl⟩
theorem opRow_10 {op : Int} (h : (op == 10) = true) : opKids op = 3 ∧ opMarks op = ⟨#[91, 63, 58, 93]⟩ ∧ opOk op = true := by
  have e : op = 10 := by simpa using h
  subst e
  exact ⟨rfl, rfl, rfl⟩
theorem opRow_no {op : Int} (h4 : (op == 4) = false) (h5 : (op == 5) = false) (h6 : (op == 6) = false) (h7 : (op == 7) = false) (h8 : (op == 8) = false) (h9 : (op == 9) = false) (h10 : (op == 10) = false) : opKids op = 0 ∧ opMarks op = ⟨#[]⟩ ∧ opOk op = false := by
  simp only [beq_eq_false_iff_ne] at *
  refine ⟨?_, ?_, ?_⟩
  · unfold opKids; rw [if_neg h4, if_neg h5, if_neg h6, if_neg h7, if_neg h8, if_neg h9, if_neg h10]
  · unfold opMarks; rw [if_neg h4, if_neg h5, if_neg h6, if_neg h7, if_neg h8, if_neg h9, if_neg h10]
  · unfold opOk; rw [decide_eq_false]; omega

set_option maxHeartbeats 400000 in
theorem opOf_calls (op : Int) (w : World) : Calls Try.prog 42 #[.int .i64 op] w (OpRow op w) := by
  go_enter Try.func42, Try.ntmps42
  go_wp2_with fail
  all_goals first
    | (rename (op == 4) = true => ht; obtain ⟨e1, e2, e3⟩ := opRow_4 ht; refine bodyPost_ret (v := .tuple #[.agg #[.int .i64 2, .string ⟨#[40, 32, 41]⟩], .bool true]) (by simp [results, Try.results42, go_sem]) rfl ⟨by rw [e1, e2, e3], box_below _ _⟩)
    | (rename (op == 5) = true => ht; obtain ⟨e1, e2, e3⟩ := opRow_5 ht; refine bodyPost_ret (v := .tuple #[.agg #[.int .i64 2, .string ⟨#[60, 44, 62]⟩], .bool true]) (by simp [results, Try.results42, go_sem]) rfl ⟨by rw [e1, e2, e3], box_below _ _⟩)
    | (rename (op == 6) = true => ht; obtain ⟨e1, e2, e3⟩ := opRow_6 ht; refine bodyPost_ret (v := .tuple #[.agg #[.int .i64 1, .string ⟨#[126]⟩], .bool true]) (by simp [results, Try.results42, go_sem]) rfl ⟨by rw [e1, e2, e3], box_below _ _⟩)
    | (rename (op == 7) = true => ht; obtain ⟨e1, e2, e3⟩ := opRow_7 ht; refine bodyPost_ret (v := .tuple #[.agg #[.int .i64 1, .string ⟨#[94]⟩], .bool true]) (by simp [results, Try.results42, go_sem]) rfl ⟨by rw [e1, e2, e3], box_below _ _⟩)
    | (rename (op == 8) = true => ht; obtain ⟨e1, e2, e3⟩ := opRow_8 ht; refine bodyPost_ret (v := .tuple #[.agg #[.int .i64 2, .string ⟨#[40, 43, 41]⟩], .bool true]) (by simp [results, Try.results42, go_sem]) rfl ⟨by rw [e1, e2, e3], box_below _ _⟩)
    | (rename (op == 9) = true => ht; obtain ⟨e1, e2, e3⟩ := opRow_9 ht; refine bodyPost_ret (v := .tuple #[.agg #[.int .i64 2, .string ⟨#[40, 45, 41]⟩], .bool true]) (by simp [results, Try.results42, go_sem]) rfl ⟨by rw [e1, e2, e3], box_below _ _⟩)
    | (rename (op == 10) = true => ht; obtain ⟨e1, e2, e3⟩ := opRow_10 ht; refine bodyPost_ret (v := .tuple #[.agg #[.int .i64 3, .string ⟨#[91, 63, 58, 93]⟩], .bool true]) (by simp [results, Try.results42, go_sem]) rfl ⟨by rw [e1, e2, e3], box_below _ _⟩)
    | (rename (op == 4) = false => h4; rename (op == 5) = false => h5; rename (op == 6) = false => h6; rename (op == 7) = false => h7; rename (op == 8) = false => h8; rename (op == 9) = false => h9; rename (op == 10) = false => h10; obtain ⟨e1, e2, e3⟩ := opRow_no h4 h5 h6 h7 h8 h9 h10; refine bodyPost_ret (v := .tuple #[.agg #[.int .i64 0, .string ⟨#[]⟩], .bool false]) (by simp [results, Try.results42, go_sem]) rfl ⟨by rw [e1, e2, e3], box_below _ _⟩)

set_option maxHeartbeats 400000 in
theorem nodeOf_1 (n : Int) (len : Nat) (w : World) : Calls Try.prog 39 #[.int .i64 1, .int .i64 n, .int .i64 (len : Int)] w fun e w' => e = .returned (.tuple #[.iface 82 (.int .i64 n), .bool ((len : Int) == 0)]) ∧ Below w.heap.size w w' := by
  go_enter Try.func39, Try.ntmps39
  go_wp2_with fail
  go_ret2
  exact ⟨rfl, Below.refl _ _⟩

set_option maxHeartbeats 400000 in
theorem nodeOf_2 (n : Int) (len : Nat) (w : World) : Calls Try.prog 39 #[.int .i64 2, .int .i64 n, .int .i64 (len : Int)] w fun e w' => e = .returned (.tuple #[.iface 83 (.int .i64 n), .bool ((len : Int) == 0)]) ∧ Below w.heap.size w w' := by
  go_enter Try.func39, Try.ntmps39
  go_wp2_with fail
  go_ret2
  exact ⟨rfl, Below.refl _ _⟩

set_option maxHeartbeats 400000 in
theorem nodeOf_3 (n : Int) (len : Nat) (w : World) : Calls Try.prog 39 #[.int .i64 3, .int .i64 n, .int .i64 (len : Int)] w fun e w' => e = .returned (.tuple #[.iface 84 (.int .i64 n), .bool ((len : Int) == 0)]) ∧ Below w.heap.size w w' := by
  go_enter Try.func39, Try.ntmps39
  go_wp2_with fail
  go_ret2
  exact ⟨rfl, Below.refl _ _⟩

theorem ret_node {v : Value} {a b : Bool} (h : a = b) : Ending.returned (.tuple #[v, .bool a]) = .returned (.tuple #[v, .bool b]) := by rw [h]
/-- nodeOf has handed back a node with operands -/
def OpNode (op : Int) (b : Bool) (w : World) (e : Ending) (w' : World) : Prop := e = .returned (.tuple #[.iface 78 (.agg #[.int .i64 (opKids op), .string (opMarks op)]), .bool b]) ∧ Below w.heap.size w w'
theorem opKids_range (op : Int) : 0 ≤ opKids op ∧ opKids op ≤ 3 := by
  unfold opKids
  repeat' split
  all_goals omega

set_option maxHeartbeats 800000 in
theorem nodeOf_op (op n : Int) (len : Nat) (w : World) (t1 : (op == 1) = false) (t2 : (op == 2) = false) (t3 : (op == 3) = false) :
    Calls Try.prog 39 #[.int .i64 op, .int .i64 n, .int .i64 (len : Int)] w (OpNode op (opOk op && ((n == 0) && ((len : Int) == opKids op))) w) := by
  have hkr := opKids_range op
  go_enter Try.func39, Try.ntmps39
  go_wp2_with fail
  refine (opOf_calls op _).mono ?_
  rintro e w1 ⟨rfl, hb⟩
  have HB : Hid (Below w.heap.size w w1) := hb
  have hle : w.heap.size ≤ w1.heap.size := hb.size
  clear hb
  cases hok : opOk op with
  | false =>
    have HV : Hid ((opOk op && ((n == 0) && ((len : Int) == opKids op))) = false) := by simp [Hid, hok]
    go_wp2_with fail
    have k3 := cell_regrown (box_cell w1 #[.int .i64 (opKids op), .string (opMarks op)] 78 0 _ rfl)
    have k4 := cell_regrown (box_cell w1 #[.int .i64 (opKids op), .string (opMarks op)] 78 1 _ rfl)
    refine wp_region_quiet_below (by kernel_rfl) (by kernel_rfl) ?_
    repeat (any_goals (first | go_big_quiet_step (fail) | quiet_step (fail)))
    refine wpQuiet_nil ?_
    intro _ hw'
    obtain ⟨⟨dq, osq⟩, hw''⟩ := hw'
    subst hw''
    clear k3 k4
    go_wp2_with fail
    go_ret2
    exact ⟨ret_node HV.out.symm, HB.out.trans ((box_below _ _).trans ((below_regrown _ _ _).mono (by rw [Deep.nblk_alloc]; omega)) |>.mono hle)⟩
  | true =>
    by_cases hn : n = 0
    · subst hn
      by_cases hl : (len : Int) = opKids op
      · have hl' : ((len : Int) == opKids op) = true := by simpa using hl
        have HV : Hid ((opOk op && (((0 : Int) == 0) && ((len : Int) == opKids op))) = true) := by simp [Hid, hok, hl']
        clear hl
        go_wp2_with fail
        have k3 := cell_regrown (box_cell w1 #[.int .i64 (opKids op), .string (opMarks op)] 78 0 _ rfl)
        have k4 := cell_regrown (box_cell w1 #[.int .i64 (opKids op), .string (opMarks op)] 78 1 _ rfl)
        refine wp_region_quiet_below (by kernel_rfl) (by kernel_rfl) ?_
        repeat (any_goals (first | go_big_quiet_step (fail) | quiet_step (fail)))
        refine wpQuiet_nil ?_
        intro _ hw'
        obtain ⟨⟨dq, osq⟩, hw''⟩ := hw'
        subst hw''
        clear k3 k4
        go_wp2_with fail
        go_ret2
        exact ⟨ret_node HV.out.symm, HB.out.trans ((box_below _ _).trans ((below_regrown _ _ _).mono (by rw [Deep.nblk_alloc]; omega)) |>.mono hle)⟩
      · have hl' : ((len : Int) == opKids op) = false := by simpa using hl
        have HV : Hid ((opOk op && (((0 : Int) == 0) && ((len : Int) == opKids op))) = false) := by simp [Hid, hok, hl']
        clear hl
        go_wp2_with fail
        have k3 := cell_regrown (box_cell w1 #[.int .i64 (opKids op), .string (opMarks op)] 78 0 _ rfl)
        have k4 := cell_regrown (box_cell w1 #[.int .i64 (opKids op), .string (opMarks op)] 78 1 _ rfl)
        refine wp_region_quiet_below (by kernel_rfl) (by kernel_rfl) ?_
        repeat (any_goals (first | go_big_quiet_step (fail) | quiet_step (fail)))
        refine wpQuiet_nil ?_
        intro _ hw'
        obtain ⟨⟨dq, osq⟩, hw''⟩ := hw'
        subst hw''
        clear k3 k4
        go_wp2_with fail
        go_ret2
        exact ⟨ret_node HV.out.symm, HB.out.trans ((box_below _ _).trans ((below_regrown _ _ _).mono (by rw [Deep.nblk_alloc]; omega)) |>.mono hle)⟩
    · have hn' : (n == 0) = false := by simpa using hn
      have HV : Hid ((opOk op && ((n == 0) && ((len : Int) == opKids op))) = false) := by simp [Hid, hok, hn']
      go_wp2_with fail
      have k3 := cell_regrown (box_cell w1 #[.int .i64 (opKids op), .string (opMarks op)] 78 0 _ rfl)
      have k4 := cell_regrown (box_cell w1 #[.int .i64 (opKids op), .string (opMarks op)] 78 1 _ rfl)
      refine wp_region_quiet_below (by kernel_rfl) (by kernel_rfl) ?_
      repeat (any_goals (first | go_big_quiet_step (fail) | quiet_step (fail)))
      refine wpQuiet_nil ?_
      intro _ hw'
      obtain ⟨⟨dq, osq⟩, hw''⟩ := hw'
      subst hw''
      clear k3 k4
      go_wp2_with fail
      go_ret2
      exact ⟨ret_node HV.out.symm, HB.out.trans ((box_below _ _).trans ((below_regrown _ _ _).mono (by rw [Deep.nblk_alloc]; omega)) |>.mono hle)⟩
end Go.Proofs.Ytekdipmioogohaa
/-
  THE PROGRAM's operands, heightAfter AND StackOf.
-/
namespace Go.Proofs.Ytekdipmioogohaa
set_option linter.unusedVariables false
set_option linter.unusedSimpArgs false
open Go.RowKit

theorem opKids_ar {op : Int} (h1 : op ≠ 1) (h2 : op ≠ 2) (h3 : op ≠ 3) : opKids op = (arN op : Int) ∧ opOk op = decide (0 ≤ arity op) := by
  unfold opOk opKids arN arity
  rw [if_neg (by omega : ¬ (op = 1 ∨ op = 2 ∨ op = 3))]
  by_cases e4 : op = 4
  · subst e4; simp
  by_cases e5 : op = 5
  · subst e5; simp
  by_cases e6 : op = 6
  · subst e6; simp
  by_cases e7 : op = 7
  · subst e7; simp
  by_cases e8 : op = 8
  · subst e8; simp
  by_cases e9 : op = 9
  · subst e9; simp
  by_cases e10 : op = 10
  · subst e10; simp
  simp only [e4, e5, e6, e7, e8, e9, e10, or_self, if_false, ↓reduceIte]
  refine ⟨by simp, ?_⟩
  simp
  omega

set_option maxHeartbeats 400000 in
theorem operands_calls (o n : Int) (w : World) : Calls Try.prog 32 #[.agg #[.int .i64 o, .int .i64 n]] w fun e w' => e = .returned (.tuple #[.int .i64 (arN o : Int), .bool (decide (0 ≤ arity o))]) ∧ Below w.heap.size w w' := by
  by_cases h1 : o = 1
  · subst h1
    go_enter Try.func32, Try.ntmps32
    go_wp2_with fail
    go_ret2
    exact ⟨rfl, box_below _ _⟩
  by_cases h2 : o = 2
  · subst h2
    go_enter Try.func32, Try.ntmps32
    go_wp2_with fail
    go_ret2
    exact ⟨rfl, box_below _ _⟩
  by_cases h3 : o = 3
  · subst h3
    go_enter Try.func32, Try.ntmps32
    go_wp2_with fail
    go_ret2
    exact ⟨rfl, box_below _ _⟩
  obtain ⟨e1, e2⟩ := opKids_ar h1 h2 h3
  have HE : Hid (opKids o = (arN o : Int) ∧ opOk o = decide (0 ≤ arity o)) := ⟨e1, e2⟩
  have h1' : (o == 1) = false := by simpa using h1
  have h2' : (o == 2) = false := by simpa using h2
  have h3' : (o == 3) = false := by simpa using h3
  clear h1 h2 h3 e1 e2
  go_enter Try.func32, Try.ntmps32
  go_wp2_with fail
  refine (opOf_calls o _).mono ?_
  rintro e w1 ⟨rfl, hb⟩
  have HB : Hid (Below w.heap.size w w1) := (box_below _ _).trans (hb.mono (by rw [Deep.nblk_alloc]; omega))
  clear hb
  go_wp2_with fail
  go_ret2
  rw [HE.out.1, HE.out.2]
  exact ⟨rfl, HB.out.trans ((box_below _ _).mono HB.out.size)⟩

set_option maxHeartbeats 400000 in
theorem height_ok (o n : Int) (h : Nat) (w : World) (h1 : 0 ≤ arity o) (h2 : arN o ≤ h) (hm : h ≤ 4611686018427387904) : Calls Try.prog 20 #[.agg #[.int .i64 o, .int .i64 n], .int .i64 (h : Int)] w fun e w' => e = .returned (.tuple #[.int .i64 ((h - arN o + 1 : Nat) : Int), .bool true]) ∧ Below w.heap.size w w' := by
  have HV : Hid (((h - arN o + 1 : Nat) : Int) = (h : Int) - arN o + 1) := by unfold Hid; omega
  have hd : decide (0 ≤ arity o) = true := decide_eq_true h1
  have ha : arN o ≤ 3 := by rcases arity_cases o with e | ⟨-, -, e⟩ <;> omega
  have hq := operands_calls o n (w.alloc (.cells #[.int .i64 o, .int .i64 n] 37))
  rw [hd] at hq
  have hle : (arN o : Int) ≤ h := by omega
  clear hd h1
  go_enter Try.func20, Try.ntmps20
  go_wp2_with fail
  refine hq.mono ?_
  rintro e w1 ⟨rfl, hb⟩
  have HB : Hid (Below w.heap.size w w1) := (box_below _ _).trans (hb.mono (by rw [Deep.nblk_alloc]; omega))
  clear hb
  go_wp2_with fail
  go_ret2
  rw [HV.out]
  exact ⟨rfl, HB.out⟩
set_option maxHeartbeats 400000 in
theorem height_no (o n : Int) (h : Nat) (w : World) (h1 : ¬ (0 ≤ arity o ∧ arN o ≤ h)) (hm : h ≤ 4611686018427387904) : Calls Try.prog 20 #[.agg #[.int .i64 o, .int .i64 n], .int .i64 (h : Int)] w fun e w' => (∃ z : Int, e = .returned (.tuple #[.int .i64 z, .bool false])) ∧ Below w.heap.size w w' := by
  have ha : arN o ≤ 3 := by
    rcases arity_cases o with e | ⟨-, -, e⟩
    · unfold arN; rw [e]; decide
    · exact e
  have hq := operands_calls o n (w.alloc (.cells #[.int .i64 o, .int .i64 n] 37))
  by_cases h2 : 0 ≤ arity o
  · have hd : decide (0 ≤ arity o) = true := decide_eq_true h2
    rw [hd] at hq
    have HLE : Hid (decide (arN o ≤ h) = false) := decide_eq_false (by omega)
    clear hd h1 h2
    go_enter Try.func20, Try.ntmps20
    go_wp2_with fail
    refine hq.mono ?_
    rintro e w1 ⟨rfl, hb⟩
    have HB : Hid (Below w.heap.size w w1) := (box_below _ _).trans (hb.mono (by rw [Deep.nblk_alloc]; omega))
    clear hb
    go_wp2_with fail
    go_ret2
    exact ⟨⟨(h : Int) - (arN o : Int) + 1, by rw [HLE.out]; rfl⟩, HB.out⟩
  · have hd : decide (0 ≤ arity o) = false := decide_eq_false h2
    rw [hd] at hq
    clear hd h1 h2
    go_enter Try.func20, Try.ntmps20
    go_wp2_with fail
    refine hq.mono ?_
    rintro e w1 ⟨rfl, hb⟩
    have HB : Hid (Below w.heap.size w w1) := (box_below _ _).trans (hb.mono (by rw [Deep.nblk_alloc]; omega))
    clear hb
    go_wp2_with fail
    go_ret2
    exact ⟨⟨_, rfl⟩, HB.out⟩

theorem dsC_take {cs : List Ins} {ds : List Nat} {k : Nat} (h : dsC [] (cs.take k) = some ds) (hk : k ≤ cs.length) : topH ds ≤ k ∧ ds.length = k := by
  have h1 := height_le h
  have h2 := dsC_len h
  rw [List.length_take, Nat.min_eq_left hk] at h1 h2
  simp [topH] at h1 h2 ⊢
  omega
theorem dsC_some {cs : List Ins} {ds : List Nat} {k : Nat} (h : dsC [] (cs.take k) = some ds) (hk : k < cs.length) (h1 : 0 ≤ arity cs[k].op) (h2 : arN cs[k].op ≤ topH ds) : dsC [] (cs.take (k + 1)) = some (ds ++ [topH ds - arN cs[k].op + 1]) := by
  rw [dsC_succ _ _ _ hk, h]
  simp [dstp, hstp, h1, h2]
theorem dsC_no {cs : List Ins} {ds : List Nat} {k : Nat} (h : dsC [] (cs.take k) = some ds) (hk : k < cs.length) (h1 : ¬ (0 ≤ arity cs[k].op ∧ arN cs[k].op ≤ topH ds)) : dsC [] cs = none := by
  refine dsC_stop (k := k + 1) ?_
  rw [dsC_succ _ _ _ hk, h]
  simp [dstp, hstp, h1]

set_option maxRecDepth 100000 in
set_option maxHeartbeats 1600000 in
theorem implStack_calls (cs : List Ins) (c : Value) (w : World) (hk : InsIn w cs c) (hl : cs.length ≤ 1048576) : Calls Try.prog 8 #[c] w fun e w' => e = .returned (.int .i64 (stackO cs : Int)) ∧ Below w.heap.size w w' := by
  have HK : Hid (InsIn w cs c) := hk
  obtain ⟨ad, cap, rfl, -, -, -⟩ := hk
  go_enter Try.func8, Try.ntmps8
  go_wp2_with fail
  go_loopw [3, 4, 10] (fun h m i wr => ∃ (k : Nat) (ds : List Nat), k ≤ cs.length ∧ i = .int .i64 k ∧ Hid (dsC [] (cs.take k) = some ds) ∧ h = .int .i64 (topH ds : Int) ∧ m = .int .i64 (mxL ds : Int) ∧ Below w.heap.size w wr) (fun _ _ i _ => cs.length - (intOf i).toNat)
  case atStart => exact ⟨0, [], Nat.zero_le _, rfl, rfl, rfl, rfl, Below.refl _ _⟩
  case round =>
    obtain ⟨k, ds, hk, rfl, HD, rfl, rfl, hb⟩ := hrel
    have htk := (dsC_take HD.out hk).1
    by_cases hlt : k < cs.length
    · obtain ⟨bl, off, rfl, -, c0, c1⟩ := (HK.out.next hb).at k hlt
      have HB : Hid (Below w.heap.size w wr) := hb
      clear hb
      by_cases hok : 0 ≤ arity cs[k].op ∧ arN cs[k].op ≤ topH ds
      · have HN := mkHid (dsC_some HD.out hlt hok.1 hok.2)
        obtain ⟨hok1, hok2⟩ := hok
        have hq := height_ok cs[k].op cs[k].num (topH ds) (wr.alloc (.cells #[.int .i64 cs[k].op, .int .i64 cs[k].num] 37)) hok1 hok2 (by omega)
        have HM := mkHid (mxL_snoc ds (topH ds - arN cs[k].op + 1))
        have HT := mkHid (topH_snoc ds (topH ds - arN cs[k].op + 1))
        clear hok1 hok2
        obtain ⟨h', hh'⟩ : ∃ h' : Nat, h' = topH ds - arN cs[k].op + 1 := ⟨_, rfl⟩
        rw [← hh'] at hq HN HM HT
        clear hh'
        go_wp2_with fail
        refine hq.mono ?_
        rintro e w1 ⟨rfl, hb1⟩
        have HB1 : Hid (Below w.heap.size w w1) := HB.out.trans (((box_below _ _).trans (hb1.mono (by rw [Deep.nblk_alloc]; omega))).mono HB.out.size)
        clear hb1
        go_wp2_with fail
        go_roundw
        case rel => exact ⟨k + 1, _, by omega, by go_num, HN, by rw [HT.out], congrArg (Value.int .i64) (by rw [HM.out]; split <;> omega), HB1.out⟩
        case measure => simp [intOf]; omega
      · have hq := height_no cs[k].op cs[k].num (topH ds) (wr.alloc (.cells #[.int .i64 cs[k].op, .int .i64 cs[k].num] 37)) hok (by omega)
        have HV : Hid (stackO cs = 0) := by unfold Hid stackO; rw [dsC_no HD.out hlt hok]
        clear hok
        go_wp2_with fail
        refine hq.mono ?_
        rintro e w1 ⟨⟨z, rfl⟩, hb1⟩
        have HB1 : Hid (Below w.heap.size w w1) := HB.out.trans (((box_below _ _).trans (hb1.mono (by rw [Deep.nblk_alloc]; omega))).mono HB.out.size)
        clear hb1
        go_wp2_with fail
        go_ret
        rw [HV.out]
        exact ⟨rfl, HB1.out⟩
    · have hke : k = cs.length := by omega
      have HV : Hid (stackO cs = mxL ds) := by
        have := HD.out
        rw [hke, List.take_length] at this
        unfold Hid stackO; rw [this]
      have HB : Hid (Below w.heap.size w wr) := hb
      clear hke hb
      go_wp2_with fail
      go_ret
      rw [HV.out]
      exact ⟨rfl, HB.out⟩
end Go.Proofs.Ytekdipmioogohaa
/-
  THE MODEL's l8Depths AND StackOf.
-/
namespace Go.Proofs.Ytekdipmioogohaa
set_option linter.unusedVariables false
set_option linter.unusedSimpArgs false
open Go.RowKit

/-- heights, as numbers -/
def hN (ds : List Nat) : List Int := ds.map fun (a : Nat) => (a : Int)
theorem hN_length (ds : List Nat) : (hN ds).length = ds.length := by simp [hN]
/-- the heights, in new memory, and whether one element is left -/
def DepRes (cs : List Ins) (w : World) (e : Ending) (w' : World) : Prop :=
  ∃ v, e = .returned (.tuple #[v, .bool (match dsC [] cs with | some ds => decide (topH ds = 1) | none => false)]) ∧ StkI w' w.heap.size (match dsC [] cs with | some ds => hN ds | none => []) v ∧ Below w.heap.size w w'

set_option maxRecDepth 100000 in
set_option maxHeartbeats 1600000 in
theorem l8Depths_calls (cs : List Ins) (c : Value) (w : World) (hk : InsIn w cs c) (hl : cs.length ≤ 1048576) : Calls Try.prog 21 #[c] w (DepRes cs w) := by
  have HK : Hid (InsIn w cs c) := hk
  obtain ⟨ad, cap, rfl, -, -, -⟩ := hk
  go_enter Try.func21, Try.ntmps21
  go_wp2_with fail
  go_loopw [4, 5, 6] (fun o n i wr => ∃ (k : Nat) (ds : List Nat), k ≤ cs.length ∧ i = .int .i64 k ∧ Hid (dsC [] (cs.take k) = some ds) ∧ n = .int .i64 (topH ds : Int) ∧ StkI wr w.heap.size (hN ds) o ∧ Below w.heap.size w wr) (fun _ _ i _ => cs.length - (intOf i).toNat)
  case atStart => exact ⟨0, [], Nat.zero_le _, rfl, rfl, rfl, StkI.nil _ _ (Nat.le_refl _), box_below _ _⟩
  case round =>
    obtain ⟨k, ds, hk, rfl, HD, rfl, hst, hb⟩ := hrel
    obtain ⟨htk, hdl⟩ := dsC_take HD.out hk
    have HS : Hid (StkI wr w.heap.size (hN ds) u4) := hst
    have HB : Hid (Below w.heap.size w wr) := hb
    clear hst
    by_cases hlt : k < cs.length
    · obtain ⟨bl, off, rfl, -, c0, c1⟩ := (HK.out.next hb).at k hlt
      obtain ⟨ado, no, capo, rfl⟩ := HS.out.form
      clear hb
      by_cases hok : 0 ≤ arity cs[k].op ∧ arN cs[k].op ≤ topH ds
      · have HN := mkHid (dsC_some HD.out hlt hok.1 hok.2)
        obtain ⟨hok1, hok2⟩ := hok
        have har : arity cs[k].op = (arN cs[k].op : Int) := by
          rcases arity_cases cs[k].op with e | ⟨-, e, -⟩
          · omega
          · exact e
        have hq := l1Kids_calls cs[k].op wr
        rw [har] at hq
        have HT := mkHid (topH_snoc ds (topH ds - arN cs[k].op + 1))
        have HE : Hid ((topH ds : Int) - (arN cs[k].op : Int) + 1 = ((topH ds - arN cs[k].op + 1 : Nat) : Int)) := by unfold Hid; omega
        have hn1 : ¬ ((arN cs[k].op : Int) < 0) := by omega
        have hn2 : ¬ ((topH ds : Int) < (arN cs[k].op : Int)) := by omega
        have HNL : Hid (hN (ds ++ [topH ds - arN cs[k].op + 1]) = hN ds ++ [(topH ds : Int) - (arN cs[k].op : Int) + 1]) := by unfold Hid; rw [HE.out]; simp [hN]
        have HDL : Hid ((hN ds).length ≤ 1048575) := by unfold Hid; rw [hN_length]; omega
        have A1 := mkHid (HS.out.alloc (.cells #[.int .i64 ((topH ds : Int) - (arN cs[k].op : Int) + 1)] 3))
        have K1 := mkHid (oneI_in wr ((topH ds : Int) - (arN cs[k].op : Int) + 1))
        have L1 : Hid (w.heap.size ≤ (wr.alloc (.cells #[.int .i64 ((topH ds : Int) - (arN cs[k].op : Int) + 1)] 3)).heap.size) := by rw [Hid, Deep.nblk_alloc]; have := HB.out.size; omega
        have HB5 : Hid (Below w.heap.size w (wr.alloc (.cells #[.int .i64 ((topH ds : Int) - (arN cs[k].op : Int) + 1)] 3))) := HB.out.alloc HB.out.size _
        clear hok1 har
        go_wp2_with fail
        refine hq.mono ?_
        rintro e w1 ⟨rfl, rfl⟩
        go_wp2_with (have tk := A1; clear tk; at_builtin; go_must (refine wpList_pushI rfl _ _ rfl _ w.heap.size (hN ds) [(topH ds : Int) - (arN cs[k].op : Int) + 1] (.slice ado no capo) (.slice (some ⟨wr.heap.size, 0, none⟩) 1 1) rfl A1.out rfl K1.out L1.out (by have := HDL.out; simp only [List.length_cons, List.length_nil]; omega) ?_); go_must (intro v1 w6 hst1 hg1); go_must (have HB6 : Hid (Below w.heap.size w w6) := StkI.grown A1.out rfl HB5.out hg1); go_must (have HS6 : Hid (StkI w6 w.heap.size (hN (ds ++ [topH ds - arN cs[k].op + 1])) v1) := by rw [HNL.out]; exact hst1); go_must (obtain ⟨ad1, n1, cap1, rfl⟩ := hst1.form); clear hst1 hg1)
        go_roundw
        case rel => exact ⟨k + 1, _, by omega, by go_num, HN, by rw [HT.out, ← HE.out], HS6.out, HB6.out⟩
        case measure => simp [intOf]; omega
      · have HV := mkHid (dsC_no HD.out hlt hok)
        have HST : Hid (StkI (wr.alloc (.cells #[] 3)) w.heap.size [] (.slice (some ⟨wr.heap.size, 0, none⟩) 0 0)) := StkI.nil _ _ HB.out.size
        have HBA : Hid (Below w.heap.size w (wr.alloc (.cells #[] 3))) := HB.out.alloc HB.out.size _
        have hq := l1Kids_calls cs[k].op wr
        by_cases h1 : 0 ≤ arity cs[k].op
        · have har : arity cs[k].op = (arN cs[k].op : Int) := by
            rcases arity_cases cs[k].op with e | ⟨-, e, -⟩
            · omega
            · exact e
          rw [har] at hq
          have hn1 : ¬ ((arN cs[k].op : Int) < 0) := by omega
          have hn2 : (topH ds : Int) < (arN cs[k].op : Int) := by omega
          have hn3 : topH ds < arN cs[k].op := by omega
          clear hok h1 har
          go_wp2_with fail
          refine hq.mono ?_
          rintro e w1 ⟨rfl, rfl⟩
          go_wp2_with fail
          go_ret2
          exact ⟨.slice (some ⟨wr.heap.size, 0, none⟩) 0 0, by rw [HV.out]; rfl, by rw [HV.out]; exact HST.out, HBA.out⟩
        · have har : arity cs[k].op = -1 := by
            rcases arity_cases cs[k].op with e | ⟨e, -, -⟩
            · exact e
            · omega
          rw [har] at hq
          clear hok h1 har
          go_wp2_with fail
          refine hq.mono ?_
          rintro e w1 ⟨rfl, rfl⟩
          go_wp2_with fail
          go_ret2
          exact ⟨.slice (some ⟨wr.heap.size, 0, none⟩) 0 0, by rw [HV.out]; rfl, by rw [HV.out]; exact HST.out, HBA.out⟩
    · have hke : k = cs.length := by omega
      have HV : Hid (dsC [] cs = some ds) := by
        have := HD.out
        rw [hke, List.take_length] at this
        exact this
      clear hke hb
      obtain ⟨ado, no, capo, rfl⟩ := HS.out.form
      go_wp2_with fail
      go_ret2
      refine ⟨.slice ado no capo, ?_, ?_, HB.out⟩
      · rw [HV.out]; refine congrArg (fun b => Ending.returned (.tuple #[.slice ado no capo, .bool b])) (?_ : ((topH ds : Int) == 1) = decide (topH ds = 1)); by_cases h : topH ds = 1 <;> simp [h] <;> omega
      · rw [HV.out]; exact HS.out

theorem mxL_take (ds : List Nat) (j : Nat) (h : j < ds.length) : mxL (ds.take (j + 1)) = max (mxL (ds.take j)) ds[j] := by
  rw [List.take_succ_eq_append_getElem h, mxL_snoc]

set_option maxRecDepth 100000 in
set_option maxHeartbeats 1600000 in
theorem specStack_calls (cs : List Ins) (c : Value) (w : World) (hk : InsIn w cs c) (hl : cs.length ≤ 1048576) : Calls Try.prog 9 #[c] w fun e w' => e = .returned (.int .i64 (stackO cs : Int)) ∧ Below w.heap.size w w' := by
  obtain ⟨L, hL⟩ : ∃ L : List Nat, L = (match dsC [] cs with | some ds => ds | none => []) := ⟨_, rfl⟩
  have HV : Hid (stackO cs = mxL L) := by rw [hL]; unfold Hid stackO; cases dsC [] cs <;> rfl
  have HLN : Hid (L.length ≤ 1048576) := by
    rw [hL]; unfold Hid
    cases h : dsC [] cs with
    | none => simp
    | some ds => have := dsC_len h; simp at this ⊢; omega
  have HQ : Hid (∀ W : World, InsIn W cs c → Calls Try.prog 21 #[c] W fun e w' => ∃ v b, e = .returned (.tuple #[v, .bool b]) ∧ StkI w' W.heap.size (hN L) v ∧ Below W.heap.size W w') := fun W hW => (l8Depths_calls cs c W hW hl).mono fun e w' h => by
    obtain ⟨v, e1, e2, e3⟩ := h
    refine ⟨v, _, e1, ?_, e3⟩
    rw [hL]
    cases h : dsC [] cs <;> rw [h] at e2 <;> exact e2
  have HK : Hid (InsIn w cs c) := hk
  clear hL hk
  go_enter Try.func9, Try.ntmps9
  go_wp2_with fail
  refine (HQ.out w HK.out).mono ?_
  rintro e w1 ⟨v, b, rfl, hst, hb⟩
  have HS : Hid (StkI w1 w.heap.size (hN L) v) := hst
  have HB : Hid (Below w.heap.size w w1) := hb
  obtain ⟨ado, no, capo, rfl⟩ := HS.out.form
  have hno : no = L.length := by rw [HS.out.eq_len, hN_length]
  subst hno
  have HI : Hid (IIn w1 (hN L) (.slice ado L.length capo)) := HS.out.row.inn
  clear hst hb
  go_wp2_with fail
  go_loopw [3, 6] (fun m i wr => ∃ (j : Nat), j ≤ L.length ∧ i = .int .i64 j ∧ m = .int .i64 (mxL (L.take j) : Int) ∧ Below w1.heap.size w1 wr) (fun _ i _ => L.length - (intOf i).toNat)
  case atStart => exact ⟨0, Nat.zero_le _, rfl, rfl, Below.refl _ _⟩
  case round =>
    obtain ⟨j, hj, rfl, rfl, hb⟩ := hrel
    have HBR := mkHid hb
    have hln := HLN.out
    by_cases hlt : j < L.length
    · clear hb
      obtain ⟨bl, off, rfl, c0⟩ := (HI.out.next HBR.out).at j (by rw [hN_length]; exact hlt)
      have hel : (hN L)[j]'(by rw [hN_length]; exact hlt) = (L[j] : Int) := by simp [hN]
      rw [hel] at c0
      have HM := mkHid (mxL_take L j hlt)
      clear hel
      by_cases hgt : (mxL (L.take j) : Int) < (L[j] : Int)
      · have HM2 : Hid (mxL (L.take (j + 1)) = L[j]) := by rw [Hid, HM.out]; omega
        clear HM
        go_wp2_with fail
        go_roundw
        case rel => exact ⟨j + 1, by omega, by go_num, by rw [HM2.out], HBR.out⟩
        case measure => simp [intOf]; omega
      · have HM2 : Hid (mxL (L.take (j + 1)) = mxL (L.take j)) := by rw [Hid, HM.out]; omega
        clear HM
        go_wp2_with fail
        go_roundw
        case rel => exact ⟨j + 1, by omega, by go_num, by rw [HM2.out], HBR.out⟩
        case measure => simp [intOf]; omega
    · have hje : j = L.length := by omega
      have HV2 : Hid (stackO cs = mxL (L.take j)) := by rw [Hid, HV.out, hje, List.take_length]
      have HBB := mkHid (HB.out.trans (HBR.out.mono HB.out.size))
      clear hje hb
      go_wp2_with fail
      go_ret
      rw [HV2.out]
      exact ⟨rfl, HBB.out⟩
end Go.Proofs.Ytekdipmioogohaa
/-
  THE WALK OF FnStackOf.
-/
namespace Go.Proofs.Ytekdipmioogohaa.lawStackOf
open Go.ChangeShapes Go.WideShapes Go.ChangeAt Go.RowKit
set_option linter.unusedVariables false
set_option linter.unusedSimpArgs false

set_option maxRecDepth 100000 in
set_option maxHeartbeats 3200000 in
theorem walk (len : Nat) (v : Value) (w : World) (h : BytesOn w (Lt w.heap.size) len v) : Calls Try.prog 3 #[v] w fun e w' => e = .returned (.bool true) ∧ Below w.heap.size w w' := by
  have H := mkHid h
  obtain ⟨ad, cap, rfl, hl, hm, -⟩ := h
  unfold maxLen at hm
  go_enter Try.func3, Try.ntmps3
  by_cases hlen : (1048576 : Int) < (len : Int)
  · go_wp2_with fail
    go_ret
    exact ⟨rfl, Below.refl _ _⟩
  clear hl hm
  go_wp2_with fail
  refine (drawStackOf_calls len _ w H.out).mono ?_
  rintro e w1 ⟨cs, v1, rfl, hi, h64, hcl, hb1⟩
  have HI := mkHid hi
  have H64 := mkHid h64
  have HB1 := mkHid hb1
  obtain ⟨ad1, cap1, rfl, hlc, hmc, -⟩ := hi
  unfold maxLen at hmc
  clear h64 hb1
  have HX1 : Hid (Below w1.heap.size w1 w1) := Below.refl _ _
  go_wp2_with fail
  refine (implStack_calls cs _ w1 (HI.out.next HX1.out) (by omega)).mono ?_
  rintro e w2 ⟨rfl, hb2⟩
  have HX2 : Hid (Below w1.heap.size w1 w2) := HX1.out.trans (hb2.mono HX1.out.size)
  clear hb2
  go_wp2_with fail
  refine (specStack_calls cs _ w2 (HI.out.next HX2.out) (by omega)).mono ?_
  rintro e w3 ⟨rfl, hb3⟩
  have HX3 : Hid (Below w1.heap.size w1 w3) := HX2.out.trans (hb3.mono HX2.out.size)
  clear hb3
  have t1 : ((stackO cs : Int) != (stackO cs : Int)) = false := by simp
  by_cases h0 : stackO cs = 0
  · have t2 : ((stackO cs : Int) == 0) = true := by simp [h0]
    go_wp2_with fail
    refine (specStack_calls cs _ w3 (HI.out.next HX3.out) (by omega)).mono ?_
    rintro e w4 ⟨rfl, hb4⟩
    have HX4 : Hid (Below w1.heap.size w1 w4) := HX3.out.trans (hb4.mono HX3.out.size)
    clear hb4
    go_wp2_with fail
    go_ret
    exact ⟨rfl, HB1.out.trans (HX4.out.mono HB1.out.size)⟩
  · have t2 : ((stackO cs : Int) == 0) = false := by simp [h0]
    have hpos : 1 ≤ cs.length := by
      have := stackO_le cs
      omega
    have HTK := mkHid (stackO_take (cs.length - 1) h0)
    have hkc : cs.length - 1 ≤ cap1 := by omega
    obtain ⟨m, hmd⟩ : ∃ m, m = cs.length - 1 := ⟨_, rfl⟩
    have hml : cs.length = m + 1 := by omega
    rw [← hmd] at HTK hkc
    have hle : (stackO cs : Int) ≤ (m : Int) + 1 := by have := stackO_le cs; omega
    have hm63 : m ≤ 1048576 := by omega
    have HIT : Hid (InsIn w3 (cs.take m) (.slice ad1 m cap1)) := InsOn.take (HI.out.next HX3.out) (by omega)
    have HTL : Hid ((cs.take m).length ≤ 1048576) := by rw [Hid, List.length_take]; omega
    rw [hml]
    clear hmd h0 hml hlc hcl hpos
    go_wp2_with fail
    refine (implStack_calls (cs.take m) _ w3 HIT.out HTL.out).mono ?_
    rintro e w4 ⟨rfl, hb4⟩
    have HX4 : Hid (Below w1.heap.size w1 w4) := HX3.out.trans (hb4.mono HX3.out.size)
    clear hb4
    go_wp2_with fail
    go_ret
    exact ⟨ret_bool (decide_eq_true HTK.out), HB1.out.trans (HX4.out.mono HB1.out.size)⟩
end Go.Proofs.Ytekdipmioogohaa.lawStackOf

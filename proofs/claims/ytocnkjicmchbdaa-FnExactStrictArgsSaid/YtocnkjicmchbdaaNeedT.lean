/-
  WHICH VARIABLES AN EXPRESSION NEEDS, as plain functions on trees: evaluation over two points.
-/
import Derived.Test.YtocnkjicmchbdaaUniq
namespace Go.Proofs.Ytocnkjicmchbdaa
set_option linter.unusedVariables false
set_option linter.unusedSimpArgs false
open Go.RowKit

/-- does a call of function n need it, whose arguments do as bs says? -/
def callB (need : List (List Bool)) (n : Int) (bs : List Bool) : Bool :=
  decide (0 ≤ n) && match need[n.toNat]? with
    | none => false
    | some row => decide (row.length ≤ bs.length) && (row.zip bs).any fun p => p.1 && p.2
/-- .. and a tree, to which so many arguments are applied -/
def needG (need : List (List Bool)) (v : Int) : Tr → List Bool → Bool
  | .node o n [], acc => if o = 1 then decide (n = v) else if o = 3 then callB need n acc else false
  | .node o n [a], acc => if o = 6 ∨ o = 7 then needG need v a [] else false
  | .node o n [a, b], acc => if o = 4 then needG need v a (needG need v b [] :: acc) else if o = 8 ∨ o = 9 then needG need v a [] || needG need v b [] else false
  | .node o n [a, b, c], acc => if o = 10 then needG need v a [] || (needG need v b [] && needG need v c []) else false
  | _, _ => false
termination_by t => SizeOf.sizeOf t
decreasing_by all_goals (simp_wf; omega)
/-- does a tree need a variable? -/
def needB (need : List (List Bool)) (v : Int) (t : Tr) : Bool := needG need v t []

section
variable {need : List (List Bool)} {v : Int}
theorem needG_leaf {t : Tr} (hk : t.kids = []) (acc : List Bool) : needG need v t acc = if t.op = 1 then decide (t.num = v) else if t.op = 3 then callB need t.num acc else false := by
  cases t with
  | node o n ks => simp only [Tr.kids_node] at hk; subst hk; rw [needG]; rfl
theorem needG_one {t a : Tr} (hk : t.kids = [a]) (acc : List Bool) : needG need v t acc = if t.op = 6 ∨ t.op = 7 then needB need v a else false := by
  cases t with
  | node o n ks => simp only [Tr.kids_node] at hk; subst hk; rw [needG]; rfl
theorem needG_two {t a b : Tr} (hk : t.kids = [a, b]) (acc : List Bool) : needG need v t acc = if t.op = 4 then needG need v a (needB need v b :: acc) else if t.op = 8 ∨ t.op = 9 then needB need v a || needB need v b else false := by
  cases t with
  | node o n ks => simp only [Tr.kids_node] at hk; subst hk; rw [needG]; rfl
theorem needG_three {t a b c : Tr} (hk : t.kids = [a, b, c]) (acc : List Bool) : needG need v t acc = if t.op = 10 then needB need v a || (needB need v b && needB need v c) else false := by
  cases t with
  | node o n ks => simp only [Tr.kids_node] at hk; subst hk; rw [needG]; rfl
theorem needG_more {t a b c d : Tr} {l : List Tr} (hk : t.kids = a :: b :: c :: d :: l) (acc : List Bool) : needG need v t acc = false := by
  cases t with
  | node o n ks =>
    simp only [Tr.kids_node] at hk; subst hk
    rw [needG]
    all_goals (intros; rename_i h; cases h)

theorem needG_unw : ∀ (n : Nat) (t : Tr) (acc : List Tr), szT t ≤ n → needG need v t (acc.map (needB need v)) = needG need v (unwT t acc).1 ((unwT t acc).2.map (needB need v)) := by
  intro n
  induction n with
  | zero =>
    intro t acc hz
    rw [unwT_stop]
    rintro ⟨-, hl⟩
    rw [szT_eq, szL_sum] at hz
    omega
  | succ n ih =>
    intro t acc hz
    by_cases h : t.op = 4 ∧ t.kids.length = 2
    · obtain ⟨f, x, hk⟩ : ∃ f x, t.kids = [f, x] := by
        match hks : t.kids, h.2 with
        | [f, x], _ => exact ⟨f, x, rfl⟩
      rw [unwT_app h.1 hk, needG_two hk, if_pos h.1]
      refine ih f (x :: acc) ?_
      rw [szT_eq, hk] at hz
      simp only [szL] at hz
      omega
    · rw [unwT_stop h]
theorem needB_unw (t : Tr) : needB need v t = needG need v (unwT t []).1 ((unwT t []).2.map (needB need v)) := needG_unw _ t [] (Nat.le_refl _)
/-- arguments matter to functions only -/
theorem needG_acc {t : Tr} (h3 : t.op ≠ 3) (h4 : ¬ (t.op = 4 ∧ t.kids.length = 2)) (acc : List Bool) : needG need v t acc = needB need v t := by
  unfold needB
  match hk : t.kids with
  | [] => rw [needG_leaf hk, needG_leaf hk, if_neg h3, if_neg h3]
  | [a] => rw [needG_one hk, needG_one hk]
  | [a, b] =>
    have h4' : t.op ≠ 4 := fun e => h4 ⟨e, by rw [hk]; rfl⟩
    rw [needG_two hk, needG_two hk, if_neg h4', if_neg h4']
  | [a, b, c] => rw [needG_three hk, needG_three hk]
  | a :: b :: c :: d :: l => rw [needG_more hk, needG_more hk]
end

/-! ### The call -/
/-- what the first arguments say -/
def anyTo (row bs : List Bool) (k : Nat) : Bool := ((row.take k).zip (bs.take k)).any fun p => p.1 && p.2
theorem anyTo_zero (row bs : List Bool) : anyTo row bs 0 = false := rfl
theorem anyTo_succ (row bs : List Bool) (k : Nat) (h : k < row.length) (h' : k < bs.length) : anyTo row bs (k + 1) = (anyTo row bs k || (row[k] && bs[k])) := by
  unfold anyTo
  rw [List.take_succ_eq_append_getElem h, List.take_succ_eq_append_getElem h', List.zip_append (by simp; omega), List.any_append]
  simp
theorem anyTo_all (row bs : List Bool) (h : row.length ≤ bs.length) : anyTo row bs row.length = (row.zip bs).any fun p => p.1 && p.2 := by
  unfold anyTo
  rw [List.take_length]
  congr 1
  conv => rhs; rw [← List.take_append_drop row.length bs]
  conv => rhs; lhs; rw [← List.append_nil row]
  rw [List.zip_append (by simp; omega)]
  simp
theorem anyTo_true (row bs : List Bool) (k : Nat) (h : k < row.length) (h' : k < bs.length) (hl : row.length ≤ bs.length) (ha : row[k] = true) (hb : bs[k] = true) : ((row.zip bs).any fun p => p.1 && p.2) = true := by
  rw [List.any_eq_true]
  refine ⟨(row[k], bs[k]), ?_, by simp [ha, hb]⟩
  have : k < (row.zip bs).length := by simp; omega
  have e : (row.zip bs)[k] = (row[k], bs[k]) := by simp
  rw [← e]
  exact List.getElem_mem this
theorem callB_none {need : List (List Bool)} {k : Nat} {bs : List Bool} (h : need.length ≤ k) : callB need (k : Int) bs = false := by
  unfold callB
  rw [Int.toNat_natCast, List.getElem?_eq_none h]
  simp
theorem callB_few {need : List (List Bool)} {k : Nat} {bs : List Bool} (h : k < need.length) (hl : bs.length < need[k].length) : callB need (k : Int) bs = false := by
  unfold callB
  rw [Int.toNat_natCast, List.getElem?_eq_getElem h]
  simp only [decide_eq_false (show ¬ need[k].length ≤ bs.length by omega), Bool.false_and, Bool.and_false]
theorem callB_some {need : List (List Bool)} {k : Nat} {bs : List Bool} (h : k < need.length) (hl : need[k].length ≤ bs.length) : callB need (k : Int) bs = ((need[k].zip bs).any fun p => p.1 && p.2) := by
  unfold callB
  rw [Int.toNat_natCast, List.getElem?_eq_getElem h]
  simp only [decide_eq_true hl, Bool.true_and, decide_eq_true (show (0 : Int) ≤ (k : Int) by omega)]
end Go.Proofs.Ytocnkjicmchbdaa

/-
  PLAIN: the order in which cells are copied, their new places, and the copy. No program is named here.
-/
import Derived.Test.YtjpjikfmdaejeabSpineT
namespace Go.Proofs.Ytjpjikfmdaejeab
set_option linter.unusedVariables false
set_option linter.unusedSimpArgs false

/-- the place of a number in a list, or its length -/
def posN : List Nat → Nat → Nat
  | [], _ => 0
  | a :: l, x => if a = x then 0 else posN l x + 1
theorem posN_lt : ∀ (l : List Nat) (x : Nat), x ∈ l → posN l x < l.length
  | [], _, h => by simp at h
  | a :: l, x, h => by
    unfold posN
    split
    · simp
    · rename_i hne
      have : x ∈ l := by rcases List.mem_cons.1 h with rfl | h; exact absurd rfl hne; exact h
      have := posN_lt l x this
      simp; omega
theorem posN_app : ∀ (l m : List Nat) (x : Nat), x ∈ l → posN (l ++ m) x = posN l x
  | [], _, _, h => by simp at h
  | a :: l, m, x, h => by
    simp only [List.cons_append, posN]
    split
    · rfl
    · rename_i hne
      have : x ∈ l := by rcases List.mem_cons.1 h with rfl | h; exact absurd rfl hne; exact h
      rw [posN_app l m x this]
theorem posN_out : ∀ (l : List Nat) (x : Nat), x ∉ l → posN l x = l.length
  | [], _, _ => rfl
  | a :: l, x, h => by
    simp only [List.mem_cons, not_or] at h
    unfold posN
    rw [if_neg (fun e => h.1 e.symm), posN_out l x h.2]; rfl
theorem posN_snoc (l : List Nat) (x : Nat) (h : x ∉ l) : posN (l ++ [x]) x = l.length := by
  induction l with
  | nil => simp [posN]
  | cons a l ih =>
    simp only [List.mem_cons, not_or] at h
    simp only [List.cons_append, posN]
    rw [if_neg (fun e => h.1 e.symm), ih h.2]; rfl
theorem get_posN : ∀ (l : List Nat) (x : Nat), x ∈ l → l[posN l x]? = some x
  | [], _, h => by simp at h
  | a :: l, x, h => by
    unfold posN
    split
    · rename_i e; simp [e]
    · rename_i hne
      have : x ∈ l := by rcases List.mem_cons.1 h with rfl | h; exact absurd rfl hne; exact h
      simpa using get_posN l x this
theorem posN_at : ∀ (l : List Nat) (i : Nat) (h : i < l.length), l.Nodup → posN l l[i] = i
  | [], _, h, _ => by simp at h
  | a :: l, 0, _, _ => by simp [posN]
  | a :: l, i + 1, h, hn => by
    rw [List.nodup_cons] at hn
    simp only [List.length_cons] at h
    simp only [List.getElem_cons_succ, posN]
    rw [if_neg (by intro e; exact hn.1 (by rw [e]; exact List.getElem_mem _)), posN_at l i (by omega) hn.2]
theorem posN_pre {l m : List Nat} (h : l <+: m) {x : Nat} (hx : x ∈ l) : posN m x = posN l x := by
  obtain ⟨t, rfl⟩ := h; exact posN_app l t x hx

/-- a list of different numbers below n is no longer than n -/
theorem nodup_len {n : Nat} {l : List Nat} (hn : l.Nodup) (hl : ∀ x ∈ l, x < n) : l.length ≤ n :=
  pigeon n l.length (fun i => l.getD i 0) (fun i hi => by rw [getD_at _ _ _ hi]; exact hl _ (List.getElem_mem hi)) (fun i j hi hj e => by
    simp only [getD_at _ _ _ hi, getD_at _ _ _ hj] at e
    rw [← posN_at l i hi hn, ← posN_at l j hj hn, e])

/-- one more cell, if it is not there yet -/
def visit (out : List Nat) (x : Nat) : List Nat := if x ∈ out then out else out ++ [x]
def visitL (out : List Nat) (l : List Nat) : List Nat := l.foldl visit out
theorem visit_in {out : List Nat} {x : Nat} (h : x ∈ out) : visit out x = out := by unfold visit; rw [if_pos h]
theorem visit_new {out : List Nat} {x : Nat} (h : x ∉ out) : visit out x = out ++ [x] := by unfold visit; rw [if_neg h]
theorem visit_pre (out : List Nat) (x : Nat) : out <+: visit out x := by
  unfold visit; split
  · exact List.prefix_refl _
  · exact List.prefix_append _ _
theorem visit_mem (out : List Nat) (x : Nat) : x ∈ visit out x := by
  unfold visit; split
  · assumption
  · simp
theorem visit_of {out : List Nat} {x y : Nat} (h : y ∈ visit out x) : y ∈ out ∨ y = x := by
  unfold visit at h; split at h
  · exact Or.inl h
  · simpa using h
theorem visit_nodup {out : List Nat} {x : Nat} (h : out.Nodup) : (visit out x).Nodup := by
  unfold visit; split
  · exact h
  · rename_i hx
    rw [List.nodup_append]
    exact ⟨h, by simp, by intro a ha b hb; simp only [List.mem_singleton] at hb; subst hb; intro e; exact hx (e ▸ ha)⟩
theorem visitL_nil (out : List Nat) : visitL out [] = out := rfl
theorem visitL_cons (out : List Nat) (x : Nat) (l : List Nat) : visitL out (x :: l) = visitL (visit out x) l := rfl
theorem visitL_snoc (out : List Nat) (l : List Nat) (x : Nat) : visitL out (l ++ [x]) = visit (visitL out l) x := by unfold visitL; rw [List.foldl_append]; rfl
theorem visitL_pre : ∀ (l out : List Nat), out <+: visitL out l
  | [], _ => List.prefix_refl _
  | x :: l, out => (visit_pre out x).trans (visitL_pre l _)
theorem visitL_mem : ∀ (l out : List Nat) (x : Nat), x ∈ l → x ∈ visitL out l
  | [], _, _, h => by simp at h
  | y :: l, out, x, h => by
    rcases List.mem_cons.1 h with rfl | h
    · exact (visitL_pre l _).subset (visit_mem out x)
    · exact visitL_mem l _ x h
theorem visitL_of : ∀ (l out : List Nat) (y : Nat), y ∈ visitL out l → y ∈ out ∨ y ∈ l
  | [], _, _, h => Or.inl h
  | x :: l, out, y, h => by
    rcases visitL_of l _ y h with h | h
    · rcases visit_of h with h | rfl
      · exact Or.inl h
      · exact Or.inr (List.mem_cons_self ..)
    · exact Or.inr (List.mem_cons_of_mem _ h)
theorem visitL_nodup : ∀ (l out : List Nat), out.Nodup → (visitL out l).Nodup
  | [], _, h => h
  | x :: l, out, h => visitL_nodup l _ (visit_nodup h)
theorem visitL_take (out l : List Nat) (i : Nat) (h : i < l.length) : visitL out (l.take (i + 1)) = visit (visitL out (l.take i)) l[i] := by
  rw [List.take_succ_eq_append_getElem h, visitL_snoc]

/-! ### The order -/
def ordN (g : List Ce) : Nat → Nat → List Nat → List Nat
  | 0, _, out => out
  | n + 1, i, out => if i < out.length then ordN g n (i + 1) (visitL out (kidsN g (out.getD i 0))) else out
def orderG (g : List Ce) (roots : List Nat) : List Nat := ordN g (g.length + 1) 0 (visitL [] roots)
/-- what holds when the operands of the first i cells have been copied -/
structure OrdRel (g : List Ce) (roots : List Nat) (i : Nat) (out : List Nat) : Prop where
  eq : ordN g (g.length + 1 - i) i out = orderG g roots
  le : i ≤ out.length
  nd : out.Nodup
  lt : ∀ x ∈ out, x < g.length
  rt : ∀ x ∈ roots, x ∈ out
  cl : ∀ j (hj : j < i), ∀ k ∈ kidsN g (out.getD j 0), k ∈ out
theorem OrdRel.len {g : List Ce} {roots : List Nat} {i : Nat} {out : List Nat} (h : OrdRel g roots i out) : out.length ≤ g.length := nodup_len h.nd h.lt
theorem OrdRel.start {g : List Ce} {roots : List Nat} (hr : ∀ x ∈ roots, x < g.length) : OrdRel g roots 0 (visitL [] roots) where
  eq := rfl
  le := Nat.zero_le _
  nd := visitL_nodup _ _ (by simp)
  lt := fun x hx => by rcases visitL_of _ _ _ hx with h | h; simp at h; exact hr x h
  rt := fun x hx => visitL_mem _ _ _ hx
  cl := fun j hj => absurd hj (by omega)
theorem getD_pre {l m : List Nat} (h : l <+: m) {j : Nat} (hj : j < l.length) : m.getD j 0 = l.getD j 0 := by
  obtain ⟨t, rfl⟩ := h
  rw [List.getD_eq_getElem?_getD, List.getD_eq_getElem?_getD, List.getElem?_append_left hj]
theorem OrdRel.step {g : List Ce} {defs : Int} {roots : List Nat} {i : Nat} {out : List Nat} (hg : graphB g defs = true) (h : OrdRel g roots i out) (hi : i < out.length) : OrdRel g roots (i + 1) (visitL out (kidsN g (out.getD i 0))) := by
  have hlen := h.len
  have hp := visitL_pre (kidsN g (out.getD i 0)) out
  have hx : out.getD i 0 < g.length := by rw [getD_at _ _ _ hi]; exact h.lt _ (List.getElem_mem hi)
  refine ⟨?_, Nat.le_trans hi hp.length_le, visitL_nodup _ _ h.nd, fun x hx2 => ?_, fun x hx2 => hp.subset (h.rt x hx2), fun j hj k hk => ?_⟩
  · rw [← h.eq, show g.length + 1 - i = (g.length + 1 - (i + 1)) + 1 by omega]
    conv => rhs; unfold ordN; rw [if_pos hi]
  · rcases visitL_of _ _ _ hx2 with h1 | h1
    · exact h.lt x h1
    · exact kidsN_lt hg _ hx x h1
  · rw [getD_pre hp (by omega)] at hk
    rcases Nat.lt_or_ge j i with h1 | h1
    · exact hp.subset (h.cl j h1 k hk)
    · obtain rfl : j = i := by omega
      exact visitL_mem _ _ _ hk
theorem OrdRel.fin {g : List Ce} {roots : List Nat} {i : Nat} {out : List Nat} (h : OrdRel g roots i out) (hi : ¬ i < out.length) : out = orderG g roots := by
  have := h.len
  have := h.le
  rw [← h.eq, show g.length + 1 - i = (g.length - i) + 1 by omega]
  unfold ordN; rw [if_neg hi]
/-- the order is reached -/
theorem order_rel {g : List Ce} {defs : Int} {roots : List Nat} (hg : graphB g defs = true) (hr : ∀ x ∈ roots, x < g.length) : ∃ i, OrdRel g roots i (orderG g roots) ∧ ¬ i < (orderG g roots).length := by
  have key : ∀ n i out, OrdRel g roots i out → g.length - i = n → ∃ i, OrdRel g roots i (orderG g roots) ∧ ¬ i < (orderG g roots).length := by
    intro n
    induction n with
    | zero =>
      intro i out h hn
      have := h.len
      have := h.le
      have hi : ¬ i < out.length := by omega
      have e := h.fin hi
      subst e
      exact ⟨i, h, hi⟩
    | succ n ih =>
      intro i out h hn
      by_cases hi : i < out.length
      · exact ih _ _ (h.step hg hi) (by omega)
      · have e := h.fin hi
        subst e
        exact ⟨i, h, hi⟩
  exact key _ _ _ (OrdRel.start hr) rfl

/-! ### The copy -/
/-- a copy, its operands by the places in an order -/
def cpCell (g : List Ce) (out : List Nat) (x : Nat) : Ce := ⟨opAt g x, numAt g x, (kidsN g x).map fun k => (posN out k : Int)⟩
def copyG (g : List Ce) (roots : List Nat) : List Ce := (orderG g roots).map (cpCell g (orderG g roots))
def topsG (g : List Ce) (roots : List Nat) : List Nat := roots.map (posN (orderG g roots))
theorem cpCell_pre {g : List Ce} {out out' : List Nat} (h : out <+: out') {x : Nat} (hx : ∀ k ∈ kidsN g x, k ∈ out) : cpCell g out' x = cpCell g out x := by
  unfold cpCell
  congr 1
  exact List.map_congr_left fun k hk => by rw [posN_pre h (hx k hk)]
theorem copyG_len (g : List Ce) (roots : List Nat) : (copyG g roots).length = (orderG g roots).length := by unfold copyG; simp
end Go.Proofs.Ytjpjikfmdaejeab

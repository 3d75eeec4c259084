/-
  PLAIN: the order in which cells are copied, their new places, and the copy. No program is named here.
-/
import Derived.Test.YtidijbnoaeopdaaMgExactRunValid6
import Derived.Test.YtidijbnoaeopdaaMgExactRunValid13
namespace Go.Proofs.Ytidijbnoaeopdaa
set_option linter.unusedVariables false
set_option linter.unusedSimpArgs false

/-- the place of a number in a list, or its length -/
def posN : List Nat → Nat → Nat
  | [], _ => 0
  | a :: l, x => if a = x then 0 else posN l x + 1
theorem posN_lt : ∀ (l : List Nat) (x : Nat), x ∈ l → posN l x < l.length
  | [], _, h => by simp at h
  | a :: l, x, h => by
    unfold posN
    split
    · simp
    · rename_i hne
      have : x ∈ l := by rcases List.mem_cons.1 h with rfl | h; exact absurd rfl hne; exact h
      have := posN_lt l x this
      simp; omega
theorem posN_at : ∀ (l : List Nat) (i : Nat) (h : i < l.length), l.Nodup → posN l l[i] = i
  | [], _, h, _ => by simp at h
  | a :: l, 0, _, _ => by simp [posN]
  | a :: l, i + 1, h, hn => by
    rw [List.nodup_cons] at hn
    simp only [List.length_cons] at h
    simp only [List.getElem_cons_succ, posN]
    rw [if_neg (by intro e; exact hn.1 (by rw [e]; exact List.getElem_mem _)), posN_at l i (by omega) hn.2]
/-- a list of different numbers below n is no longer than n -/
theorem nodup_len {n : Nat} {l : List Nat} (hn : l.Nodup) (hl : ∀ x ∈ l, x < n) : l.length ≤ n :=
  pigeon n l.length (fun i => l.getD i 0) (fun i hi => by rw [getD_at _ _ _ hi]; exact hl _ (List.getElem_mem hi)) (fun i j hi hj e => by
    simp only [getD_at _ _ _ hi, getD_at _ _ _ hj] at e
    rw [← posN_at l i hi hn, ← posN_at l j hj hn, e])

/-- one more cell, if it is not there yet -/
def visit (out : List Nat) (x : Nat) : List Nat := if x ∈ out then out else out ++ [x]
def visitL (out : List Nat) (l : List Nat) : List Nat := l.foldl visit out
theorem visit_pre (out : List Nat) (x : Nat) : out <+: visit out x := by
  unfold visit; split
  · exact List.prefix_refl _
  · exact List.prefix_append _ _
theorem visit_mem (out : List Nat) (x : Nat) : x ∈ visit out x := by
  unfold visit; split
  · assumption
  · simp
theorem visit_of {out : List Nat} {x y : Nat} (h : y ∈ visit out x) : y ∈ out ∨ y = x := by
  unfold visit at h; split at h
  · exact Or.inl h
  · simpa using h
theorem visit_nodup {out : List Nat} {x : Nat} (h : out.Nodup) : (visit out x).Nodup := by
  unfold visit; split
  · exact h
  · rename_i hx
    rw [List.nodup_append]
    exact ⟨h, by simp, by intro a ha b hb; simp only [List.mem_singleton] at hb; subst hb; intro e; exact hx (e ▸ ha)⟩
theorem visitL_pre : ∀ (l out : List Nat), out <+: visitL out l
  | [], _ => List.prefix_refl _
  | x :: l, out => (visit_pre out x).trans (visitL_pre l _)
theorem visitL_mem : ∀ (l out : List Nat) (x : Nat), x ∈ l → x ∈ visitL out l
  | [], _, _, h => by simp at h
  | y :: l, out, x, h => by
    rcases List.mem_cons.1 h with rfl | h
    · exact (visitL_pre l _).subset (visit_mem out x)
    · exact visitL_mem l _ x h
theorem visitL_of : ∀ (l out : List Nat) (y : Nat), y ∈ visitL out l → y ∈ out ∨ y ∈ l
  | [], _, _, h => Or.inl h
  | x :: l, out, y, h => by
    rcases visitL_of l _ y h with h | h
    · rcases visit_of h with h | rfl
      · exact Or.inl h
      · exact Or.inr (List.mem_cons_self ..)
    · exact Or.inr (List.mem_cons_of_mem _ h)
theorem visitL_nodup : ∀ (l out : List Nat), out.Nodup → (visitL out l).Nodup
  | [], _, h => h
  | x :: l, out, h => visitL_nodup l _ (visit_nodup h)
/-! ### The order -/
def ordN (g : List Ce) : Nat → Nat → List Nat → List Nat
  | 0, _, out => out
  | n + 1, i, out => if i < out.length then ordN g n (i + 1) (visitL out (kidsN g (out.getD i 0))) else out
def orderG (g : List Ce) (roots : List Nat) : List Nat := ordN g (g.length + 1) 0 (visitL [] roots)
/-- what holds when the operands of the first i cells have been copied -/
structure OrdRel (g : List Ce) (roots : List Nat) (i : Nat) (out : List Nat) : Prop where
  eq : ordN g (g.length + 1 - i) i out = orderG g roots
  le : i ≤ out.length
  nd : out.Nodup
  lt : ∀ x ∈ out, x < g.length
  rt : ∀ x ∈ roots, x ∈ out
  cl : ∀ j (hj : j < i), ∀ k ∈ kidsN g (out.getD j 0), k ∈ out
theorem OrdRel.len {g : List Ce} {roots : List Nat} {i : Nat} {out : List Nat} (h : OrdRel g roots i out) : out.length ≤ g.length := nodup_len h.nd h.lt
theorem OrdRel.start {g : List Ce} {roots : List Nat} (hr : ∀ x ∈ roots, x < g.length) : OrdRel g roots 0 (visitL [] roots) where
  eq := rfl
  le := Nat.zero_le _
  nd := visitL_nodup _ _ (by simp)
  lt := fun x hx => by rcases visitL_of _ _ _ hx with h | h; simp at h; exact hr x h
  rt := fun x hx => visitL_mem _ _ _ hx
  cl := fun j hj => absurd hj (by omega)
theorem getD_pre {l m : List Nat} (h : l <+: m) {j : Nat} (hj : j < l.length) : m.getD j 0 = l.getD j 0 := by
  obtain ⟨t, rfl⟩ := h
  rw [List.getD_eq_getElem?_getD, List.getD_eq_getElem?_getD, List.getElem?_append_left hj]
theorem OrdRel.step {g : List Ce} {defs : Int} {roots : List Nat} {i : Nat} {out : List Nat} (hg : graphB g defs = true) (h : OrdRel g roots i out) (hi : i < out.length) : OrdRel g roots (i + 1) (visitL out (kidsN g (out.getD i 0))) := by
  have hlen := h.len
  have hp := visitL_pre (kidsN g (out.getD i 0)) out
  have hx : out.getD i 0 < g.length := by rw [getD_at _ _ _ hi]; exact h.lt _ (List.getElem_mem hi)
  refine ⟨?_, Nat.le_trans hi hp.length_le, visitL_nodup _ _ h.nd, fun x hx2 => ?_, fun x hx2 => hp.subset (h.rt x hx2), fun j hj k hk => ?_⟩
  · rw [← h.eq, show g.length + 1 - i = (g.length + 1 - (i + 1)) + 1 by omega]
    conv => rhs; unfold ordN; rw [if_pos hi]
  · rcases visitL_of _ _ _ hx2 with h1 | h1
    · exact h.lt x h1
    · exact kidsN_lt hg _ hx x h1
  · rw [getD_pre hp (by omega)] at hk
    rcases Nat.lt_or_ge j i with h1 | h1
    · exact hp.subset (h.cl j h1 k hk)
    · obtain rfl : j = i := by omega
      exact visitL_mem _ _ _ hk
theorem OrdRel.fin {g : List Ce} {roots : List Nat} {i : Nat} {out : List Nat} (h : OrdRel g roots i out) (hi : ¬ i < out.length) : out = orderG g roots := by
  have := h.len
  have := h.le
  rw [← h.eq, show g.length + 1 - i = (g.length - i) + 1 by omega]
  unfold ordN; rw [if_neg hi]
/-- the order is reached -/
theorem order_rel {g : List Ce} {defs : Int} {roots : List Nat} (hg : graphB g defs = true) (hr : ∀ x ∈ roots, x < g.length) : ∃ i, OrdRel g roots i (orderG g roots) ∧ ¬ i < (orderG g roots).length := by
  have key : ∀ n i out, OrdRel g roots i out → g.length - i = n → ∃ i, OrdRel g roots i (orderG g roots) ∧ ¬ i < (orderG g roots).length := by
    intro n
    induction n with
    | zero =>
      intro i out h hn
      have := h.len
      have := h.le
      have hi : ¬ i < out.length := by omega
      have e := h.fin hi
      subst e
      exact ⟨i, h, hi⟩
    | succ n ih =>
      intro i out h hn
      by_cases hi : i < out.length
      · exact ih _ _ (h.step hg hi) (by omega)
      · have e := h.fin hi
        subst e
        exact ⟨i, h, hi⟩
  exact key _ _ _ (OrdRel.start hr) rfl

/-! ### The copy -/
/-- a copy, its operands by the places in an order -/
def cpCell (g : List Ce) (out : List Nat) (x : Nat) : Ce := ⟨opAt g x, numAt g x, (kidsN g x).map fun k => (posN out k : Int)⟩
def copyG (g : List Ce) (roots : List Nat) : List Ce := (orderG g roots).map (cpCell g (orderG g roots))
def topsG (g : List Ce) (roots : List Nat) : List Nat := roots.map (posN (orderG g roots))
theorem copyG_len (g : List Ce) (roots : List Nat) : (copyG g roots).length = (orderG g roots).length := by unfold copyG; simp
end Go.Proofs.Ytidijbnoaeopdaa
/-
  PLAIN: selections that are made early: in whichever order, the graph in the end is the same, and so is their number; a worklist with cells that wait for others finds them all. No program is named here.
-/
namespace Go.Proofs.Ytidijbnoaeopdaa
set_option linter.unusedVariables false
set_option linter.unusedSimpArgs false

/-- cell a, or none -/
def cellD (g : List Ce) (a : Nat) : Ce := g.getD a ⟨0, 0, []⟩
theorem opAt_D (g : List Ce) (a : Nat) : opAt g a = (cellD g a).op := rfl
theorem nxt_D (g : List Ce) (a : Nat) : nxt g a = (kid0 (cellD g a)).toNat := rfl
theorem kidAt_D (g : List Ce) (a j : Nat) : kidAt g a j = ((cellD g a).kids.map Int.toNat).getD j 0 := rfl
theorem cellD_set (g : List Ce) (j : Nat) (c : Ce) (i : Nat) : cellD (g.set j c) i = if i = j ∧ j < g.length then c else cellD g i := by
  unfold cellD
  rw [List.getD_eq_getElem?_getD, List.getD_eq_getElem?_getD, List.getElem?_set]
  by_cases h : j = i
  · subst h
    by_cases h2 : j < g.length
    · simp [h2]
    · simp [h2]
  · rw [if_neg h, if_neg (fun e => h e.1.symm)]
theorem cellD_ne (g : List Ce) (j : Nat) (c : Ce) {i : Nat} (h : i ≠ j) : cellD (g.set j c) i = cellD g i := by rw [cellD_set, if_neg (fun e => h e.1)]
theorem cellD_eq (g : List Ce) {j : Nat} (c : Ce) (h : j < g.length) : cellD (g.set j c) j = c := by rw [cellD_set, if_pos ⟨rfl, h⟩]
theorem cellD_ext {a b : List Ce} (hl : a.length = b.length) (h : ∀ i, cellD a i = cellD b i) : a = b := by
  refine List.ext_getElem hl fun i h1 h2 => ?_
  have := h i
  unfold cellD at this
  rw [getD_at _ _ _ h1, getD_at _ _ _ h2] at this
  exact this

/-! ### What a change of a cell that is no indirection leaves -/
theorem follow_set {g : List Ce} {j : Nat} {c : Ce} (hj : opAt g j ≠ 11) : ∀ (n a k : Nat), followN g n a = some k → k ≠ j → followN (g.set j c) n a = some k
  | 0, _, _, h, _ => by simp [followN] at h
  | n + 1, a, k, h, hk => by
    unfold followN at h ⊢
    split at h
    · rename_i h1
      have ha : a ≠ j := fun e => hj (e ▸ h1)
      rw [opAt_D, cellD_ne _ _ _ ha, ← opAt_D, if_pos h1, nxt_D, cellD_ne _ _ _ ha, ← nxt_D]
      exact follow_set hj n _ k h hk
    · rename_i h1
      simp only [Option.some.injEq] at h
      subst h
      rw [opAt_D, cellD_ne _ _ _ hk, ← opAt_D, if_neg h1]
/-- the same indirections lead to the same cell -/
theorem follow_agree {a b : List Ce} (h : ∀ x, opAt a x = 11 → cellD b x = cellD a x) : ∀ (n x k : Nat), followN a n x = some k → opAt b k ≠ 11 → followN b n x = some k
  | 0, _, _, h1, _ => by simp [followN] at h1
  | n + 1, x, k, h1, hk => by
    unfold followN at h1 ⊢
    split at h1
    · rename_i h2
      have e := h x h2
      rw [opAt_D, e, ← opAt_D, if_pos h2, nxt_D, e, ← nxt_D]
      exact follow_agree h n _ k h1 hk
    · simp only [Option.some.injEq] at h1
      subst h1
      rw [if_neg hk]

/-! ### Selections -/
def isSel (g : List Ce) (i : Nat) : Prop := opAt g i = 6 ∨ opAt g i = 7
instance (g : List Ce) (i : Nat) : Decidable (isSel g i) := by unfold isSel; infer_instance
/-- the part that a kind of selection takes of the pair k -/
def partG (g : List Ce) (op : Int) (k : Nat) : Nat := if op = 6 then kidAt g k 0 else kidAt g k 1
structure Enabled (g : List Ce) (i k : Nat) : Prop where
  lt : i < g.length
  sel : isSel g i
  fol : followN g g.length (kidAt g i 0) = some k
  pair : opAt g k = 5
def selAt (g : List Ce) (i k : Nat) : List Ce := g.set i (indTo (partG g (opAt g i) k))
/-- reached from g0 by n selections -/
inductive SelR (g0 : List Ce) : List Ce → Nat → Prop
  | zero : SelR g0 g0 0
  | step {g : List Ce} {n i k : Nat} : SelR g0 g n → Enabled g i k → SelR g0 (selAt g i k) (n + 1)
def SelMax (g : List Ce) : Prop := ∀ i k, ¬ Enabled g i k

theorem isSel_ne11 {g : List Ce} {i : Nat} (h : isSel g i) : opAt g i ≠ 11 := by unfold isSel at h; omega
theorem isSel_lt {g : List Ce} {i : Nat} (h : isSel g i) : i < g.length := by
  rcases Nat.lt_or_ge i g.length with h1 | h1
  · exact h1
  · unfold isSel opAt at h
    rw [List.getD_eq_getElem?_getD, List.getElem?_eq_none h1] at h
    simp at h
theorem op_lt {g : List Ce} {k : Nat} {o : Int} (ho : o ≠ 0) (h : opAt g k = o) : k < g.length := by
  rcases Nat.lt_or_ge k g.length with h1 | h1
  · exact h1
  · unfold opAt at h
    rw [List.getD_eq_getElem?_getD, List.getElem?_eq_none h1] at h
    exact absurd h.symm ho
theorem part_lt {g : List Ce} {defs : Int} (hg : graphB g defs = true) {k : Nat} (h : opAt g k = 5) (op : Int) : partG g op k < g.length := by
  have hk := op_lt (by omega) h
  have h1 := kids_count hg k hk
  rw [opAt_at k hk] at h
  rw [h] at h1
  have e : cArity 5 = 2 := by decide
  unfold partG
  split
  · exact (kidAt_get hg k hk 0 (by omega)).2
  · exact (kidAt_get hg k hk 1 (by omega)).2
theorem selAt_len (g : List Ce) (i k : Nat) : (selAt g i k).length = g.length := by unfold selAt; rw [List.length_set]
theorem selAt_valid {g : List Ce} {defs : Int} (hg : graphB g defs = true) {i k : Nat} (h : opAt g k = 5) : graphB (selAt g i k) defs = true := by
  obtain ⟨h1, h2⟩ := graphB_iff.1 hg
  refine graphB_iff.2 ⟨by rw [selAt_len]; exact h1, ?_⟩
  rw [selAt_len]
  exact h2.set i _ (ind_fits (part_lt hg h _))
/-- how many selections there are -/
def selB (c : Ce) : Bool := c.op == 6 || c.op == 7
theorem isSel_B (g : List Ce) (i : Nat) : isSel g i ↔ selB (cellD g i) = true := by unfold isSel selB; rw [opAt_D]; simp
theorem count_set : ∀ (g : List Ce) (i : Nat) (c : Ce), i < g.length → selB (cellD g i) = true → selB c = false → (g.set i c).countP selB + 1 = g.countP selB
  | [], _, _, h, _, _ => by simp at h
  | a :: g, 0, c, _, h1, h2 => by
    have h1 : selB a = true := h1
    simp [List.countP_cons, h1, h2]
  | a :: g, i + 1, c, h, h1, h2 => by
    have ih := count_set g i c (by simpa using h) h1 h2
    simp only [List.set_cons_succ, List.countP_cons]
    omega
theorem selB_ind (k : Nat) : selB (indTo k) = false := rfl

/-- what holds of every graph that is reached -/
structure SelInv (g0 : List Ce) (defs : Int) (g : List Ce) (n : Nat) : Prop where
  len : g.length = g0.length
  ok : graphB g defs = true
  cnt : g.countP selB + n = g0.countP selB
  cell : ∀ i, cellD g i = cellD g0 i ∨ (isSel g0 i ∧ ∃ k, followN g g.length (kidAt g0 i 0) = some k ∧ opAt g k = 5 ∧ cellD g i = indTo (partG g (opAt g0 i) k))
theorem SelInv.keep {g0 g : List Ce} {defs : Int} {n x : Nat} (h : SelInv g0 defs g n) (hx : ¬ isSel g0 x) : cellD g x = cellD g0 x := (h.cell x).elim id fun h => absurd h.1 hx
theorem SelInv.same {g0 g : List Ce} {defs : Int} {n x : Nat} (h : SelInv g0 defs g n) (hx : isSel g x) : cellD g x = cellD g0 x := (h.cell x).elim id fun h => by
  obtain ⟨-, k, -, -, e⟩ := h
  rw [isSel_B, e] at hx
  cases hx
theorem selR_inv {g0 g : List Ce} {defs : Int} {n : Nat} (hg : graphB g0 defs = true) (h : SelR g0 g n) : SelInv g0 defs g n := by
  induction h with
  | zero => exact ⟨rfl, hg, rfl, fun i => Or.inl rfl⟩
  | @step g n i k h he ih =>
    have h11 : opAt g i ≠ 11 := isSel_ne11 he.sel
    have hki : k ≠ i := fun e => by have := he.sel; have := he.pair; subst e; unfold isSel at *; omega
    refine ⟨(selAt_len g i k).trans ih.len, selAt_valid ih.ok he.pair, ?_, fun j => ?_⟩
    · have := count_set g i (indTo (partG g (opAt g i) k)) he.lt ((isSel_B _ _).1 he.sel) (selB_ind _)
      have := ih.cnt
      unfold selAt
      omega
    · have hp : ∀ (x : Nat) (op : Int), opAt g x = 5 → partG (selAt g i k) op x = partG g op x ∧ opAt (selAt g i k) x = 5 := by
        intro x op hx
        have hxi : x ≠ i := fun e => by have := he.sel; subst e; unfold isSel at *; omega
        unfold partG selAt
        refine ⟨?_, by rw [opAt_D, cellD_ne _ _ _ hxi]; exact hx⟩
        simp only [kidAt_D, cellD_ne _ _ _ hxi]
      by_cases hji : j = i
      · subst hji
        have e0 := ih.same he.sel
        refine Or.inr ⟨by rw [isSel_B, ← e0, ← isSel_B]; exact he.sel, k, ?_, (hp k 0 he.pair).2, ?_⟩
        · rw [selAt_len, kidAt_D, ← e0, ← kidAt_D]
          exact follow_set h11 _ _ _ he.fol hki
        · rw [(hp k _ he.pair).1]
          unfold selAt
          rw [cellD_eq _ _ he.lt]
          congr 2
          rw [opAt_D, opAt_D, e0]
      · have e1 : cellD (selAt g i k) j = cellD g j := cellD_ne _ _ _ hji
        rw [e1]
        rcases ih.cell j with h1 | ⟨h1, m, h2, h3, h4⟩
        · exact Or.inl h1
        · have hmi : m ≠ i := fun e => by have := he.sel; subst e; unfold isSel at *; omega
          exact Or.inr ⟨h1, m, by rw [selAt_len]; exact follow_set h11 _ _ _ h2 hmi, (hp m 0 h3).2, by rw [(hp m _ h3).1]; exact h4⟩
/-- what one has changed, the other has changed to the same -/
theorem sel_agree {g0 a b : List Ce} {defs : Int} {n m : Nat} (hg : graphB g0 defs = true) (ha : SelR g0 a n) (hb : SelR g0 b m) (hm : SelMax b) : ∀ i, cellD a i = cellD g0 i ∨ cellD a i = cellD b i := by
  have hB := selR_inv hg hb
  induction ha with
  | zero => exact fun i => Or.inl rfl
  | @step g n i k h he ih =>
    have hA := selR_inv hg h
    intro j
    by_cases hji : j = i
    · subst hji
      refine Or.inr ?_
      have e0 := hA.same he.sel
      have hs0 : isSel g0 j := by rw [isSel_B, ← e0, ← isSel_B]; exact he.sel
      have eqc : ∀ x, ¬ isSel g x → opAt g x ≠ 11 ∨ opAt g x = 11 → opAt g x = 5 ∨ opAt g x = 11 → cellD b x = cellD g x := by
        intro x hx _ h5
        rcases ih x with h1 | h1
        · rw [h1]
          refine hB.keep fun hs => hx ?_
          rw [isSel_B, h1, ← isSel_B]; exact hs
        · exact h1.symm
      have hfb : followN b b.length (kidAt g0 j 0) = some k := by
        rw [hB.len, ← hA.len]
        refine follow_agree (a := g) (fun x hx => eqc x (by unfold isSel; omega) (Or.inr hx) (Or.inr hx)) _ _ _ ?_ ?_
        · rw [kidAt_D, ← e0, ← kidAt_D]; exact he.fol
        · have hp := he.pair
          rw [opAt_D, eqc k (by unfold isSel; omega) (Or.inl (by omega)) (Or.inl hp), ← opAt_D]; omega
      have hkb : cellD b k = cellD g k := by have hp := he.pair; exact eqc k (by unfold isSel; omega) (Or.inl (by omega)) (Or.inl hp)
      have hpk : opAt b k = 5 := by rw [opAt_D, hkb, ← opAt_D]; exact he.pair
      rcases hB.cell j with h1 | ⟨-, k', h2, h3, h4⟩
      · refine absurd ?_ (hm j k)
        refine ⟨by rw [hB.len, ← hA.len]; exact he.lt, by rw [isSel_B, h1, ← isSel_B]; exact hs0, ?_, hpk⟩
        rw [kidAt_D, h1, ← kidAt_D]; exact hfb
      · rw [hfb] at h2
        simp only [Option.some.injEq] at h2
        subst h2
        rw [h4]
        unfold selAt
        rw [cellD_eq _ _ he.lt]
        congr 1
        unfold partG
        rw [show opAt g0 j = opAt g j by rw [opAt_D, opAt_D, e0]]
        simp only [kidAt_D, hkb]
    · have e1 : cellD (selAt g i k) j = cellD g j := cellD_ne _ _ _ hji
      rw [e1]
      exact ih j
/-- in whichever order -/
theorem sel_unique {g0 a b : List Ce} {defs : Int} {n m : Nat} (hg : graphB g0 defs = true) (ha : SelR g0 a n) (hma : SelMax a) (hb : SelR g0 b m) (hmb : SelMax b) : a = b ∧ n = m := by
  have hA := selR_inv hg ha
  have hB := selR_inv hg hb
  have e : a = b := by
    refine cellD_ext (hA.len.trans hB.len.symm) fun i => ?_
    rcases sel_agree hg ha hb hmb i with h1 | h1
    · rcases sel_agree hg hb ha hma i with h2 | h2
      · rw [h1, h2]
      · exact h2.symm
    · exact h1
  subst e
  have h1 := hA.cnt
  have h2 := hB.cnt
  exact ⟨rfl, by omega⟩

/-! ### The worklist -/
structure WL (g : List Ce) (work : List Nat) (wt : Nat → List Nat) : Prop where
  all : ∀ i, isSel g i → i ∈ work ∨ (∃ f, isSel g f ∧ i ∈ wt f ∧ followN g g.length (kidAt g i 0) = some f) ∨ followN g g.length (kidAt g i 0) = none ∨ ∃ k, followN g g.length (kidAt g i 0) = some k ∧ opAt g k ≠ 5 ∧ ¬ isSel g k
  nd : work.Nodup
  wk : ∀ i ∈ work, isSel g i
  wnd : ∀ f, isSel g f → (wt f).Nodup
  wsel : ∀ f, isSel g f → ∀ i ∈ wt f, isSel g i ∧ i ∉ work
  dis : ∀ f f' i, isSel g f → isSel g f' → i ∈ wt f → i ∈ wt f' → f = f'
theorem WL.fin {g : List Ce} {wt : Nat → List Nat} (h : WL g [] wt) : SelMax g := by
  intro i k he
  have hf := he.fol
  have hp := he.pair
  rcases h.all i he.sel with h1 | ⟨f, h1, -, h3⟩ | h1 | ⟨k', h1, h2, -⟩
  · simp at h1
  · rw [hf] at h3; simp only [Option.some.injEq] at h3; subst h3; unfold isSel at h1; omega
  · rw [hf] at h1; cases h1
  · rw [hf] at h1; simp only [Option.some.injEq] at h1; subst h1; exact h2 hp
theorem WL.start {g : List Ce} {work : List Nat} (hn : work.Nodup) (h : ∀ i, i ∈ work ↔ isSel g i) : WL g work (fun _ => []) :=
  ⟨fun i hi => Or.inl ((h i).2 hi), hn, fun i hi => (h i).1 hi, fun _ _ => by simp, fun _ _ i hi => by simp at hi, fun _ _ i _ _ hi => by simp at hi⟩
theorem WL.len {g : List Ce} {work : List Nat} {wt : Nat → List Nat} (h : WL g work wt) : work.length ≤ g.length := nodup_len h.nd fun i hi => isSel_lt (h.wk i hi)
end Go.Proofs.Ytidijbnoaeopdaa
/-
  PLAIN: roots of a graph; the marks of an order. No program is named here.
-/
namespace Go.Proofs.Ytidijbnoaeopdaa
set_option linter.unusedVariables false
set_option linter.unusedSimpArgs false

/-- different cells of a graph -/
def Cs (n : Nat) (o : List Nat) : Prop := o.Nodup ∧ ∀ x ∈ o, x < n
theorem Cs.len {n : Nat} {o : List Nat} (h : Cs n o) : o.length ≤ n := nodup_len h.1 h.2
theorem Cs.nil (n : Nat) : Cs n [] := ⟨by simp, fun x hx => by simp at hx⟩
theorem Cs.visit {n : Nat} {o : List Nat} {x : Nat} (h : Cs n o) (hx : x < n) : Cs n (visit o x) := ⟨visit_nodup h.1, fun y hy => by
  rcases visit_of hy with h1 | rfl
  · exact h.2 y h1
  · exact hx⟩
theorem OrdRel.cs {g : List Ce} {roots : List Nat} {i : Nat} {out : List Nat} (h : OrdRel g roots i out) : Cs g.length out := ⟨h.nd, h.lt⟩
end Go.Proofs.Ytidijbnoaeopdaa
/-
  PLAIN: what CopyGraph, CopyOrder and CollectGraph answer. No program is named here.
-/
namespace Go.Proofs.Ytidijbnoaeopdaa
set_option linter.unusedVariables false
set_option linter.unusedSimpArgs false

theorem order_closed {g : List Ce} {roots : List Nat} (hg : graphB g 6 = true) (hr : ∀ x ∈ roots, x < g.length) : ∀ a ∈ orderG g roots, ∀ k ∈ kidsN g a, k ∈ orderG g roots := by
  obtain ⟨i, h, hi⟩ := order_rel hg hr
  intro a ha k hk
  obtain ⟨j, hj, rfl⟩ := List.getElem_of_mem ha
  refine h.cl j (by omega) k ?_
  rw [getD_at _ _ _ hj]; exact hk
theorem order_cs {g : List Ce} {roots : List Nat} (hg : graphB g 6 = true) (hr : ∀ x ∈ roots, x < g.length) : Cs g.length (orderG g roots) := by
  obtain ⟨i, h, hi⟩ := order_rel hg hr
  exact h.cs
theorem order_root {g : List Ce} {roots : List Nat} (hg : graphB g 6 = true) (hr : ∀ x ∈ roots, x < g.length) : ∀ x ∈ roots, x ∈ orderG g roots := by
  obtain ⟨i, h, hi⟩ := order_rel hg hr
  exact h.rt
/-! ### Past indirections -/
def skipN (g : List Ce) (a : Nat) : Nat := (followN g g.length a).getD a
def shortC (g : List Ce) (c : Ce) : Ce := ⟨c.op, c.num, (c.kids.map Int.toNat).map fun k => (skipN g k : Int)⟩
def shortG (g : List Ce) : List Ce := g.map (shortC g)
theorem skip_lt {g : List Ce} {defs : Int} (h : graphB g defs = true) {a : Nat} (ha : a < g.length) : skipN g a < g.length := by
  unfold skipN
  cases hf : followN g g.length a with
  | none => exact ha
  | some b => exact (followN_lt h _ a b ha hf).1
theorem shortG_len (g : List Ce) : (shortG g).length = g.length := by simp [shortG]
theorem shortG_at (g : List Ce) (i : Nat) (h : i < g.length) : (shortG g)[i]'(by rw [shortG_len]; exact h) = shortC g g[i] := by simp [shortG]
theorem shortG_valid {g : List Ce} {defs : Int} (h : graphB g defs = true) : graphB (shortG g) defs = true := by
  have h' := h
  unfold graphB at h ⊢
  simp only [Bool.and_eq_true, List.all_eq_true, decide_eq_true_eq] at h ⊢
  rw [shortG_len]
  refine ⟨h.1, fun c hc => ?_⟩
  obtain ⟨i, hi, rfl⟩ := List.getElem_of_mem hc
  rw [shortG_len] at hi
  rw [shortG_at g i hi]
  have hc := graphB_cell h' i hi
  unfold cellB fitsB shortC at *
  simp only [Bool.and_eq_true, decide_eq_true_eq, List.length_map] at hc ⊢
  refine ⟨hc.1, ?_⟩
  rw [List.all_eq_true]
  intro x hx
  simp only [List.mem_map] at hx
  obtain ⟨k, ⟨y, hy, rfl⟩, rfl⟩ := hx
  have hy2 := (kids_graph h' i hi).2 y hy
  have := skip_lt h' (a := y.toNat) (by omega)
  simp only [isAt, decide_eq_true_eq]
  omega
end Go.Proofs.Ytidijbnoaeopdaa

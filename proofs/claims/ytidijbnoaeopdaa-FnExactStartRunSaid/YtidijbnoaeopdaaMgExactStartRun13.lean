/-
  PLAIN: selections that are made early: in whichever order, the graph in the end is the same, and so is their number; a worklist with cells that wait for others finds them all. No program is named here.
-/
import Derived.Test.YtidijbnoaeopdaaMgExactStartRun12
import Derived.Test.YtidijbnoaeopdaaMgExactStartRun4
import Derived.Test.YtidijbnoaeopdaaMgExactStartRun1
import Derived.Test.YtidijbnoaeopdaaProg
namespace Go.Proofs.Ytidijbnoaeopdaa
set_option linter.unusedVariables false
set_option linter.unusedSimpArgs false

/-- cell a, or none -/
def cellD (g : List Ce) (a : Nat) : Ce := g.getD a ⟨0, 0, []⟩
theorem opAt_D (g : List Ce) (a : Nat) : opAt g a = (cellD g a).op := rfl
theorem nxt_D (g : List Ce) (a : Nat) : nxt g a = (kid0 (cellD g a)).toNat := rfl
theorem kidAt_D (g : List Ce) (a j : Nat) : kidAt g a j = ((cellD g a).kids.map Int.toNat).getD j 0 := rfl
theorem cellD_set (g : List Ce) (j : Nat) (c : Ce) (i : Nat) : cellD (g.set j c) i = if i = j ∧ j < g.length then c else cellD g i := by
  unfold cellD
  rw [List.getD_eq_getElem?_getD, List.getD_eq_getElem?_getD, List.getElem?_set]
  by_cases h : j = i
  · subst h
    by_cases h2 : j < g.length
    · simp [h2]
    · simp [h2]
  · rw [if_neg h, if_neg (fun e => h e.1.symm)]
theorem cellD_ne (g : List Ce) (j : Nat) (c : Ce) {i : Nat} (h : i ≠ j) : cellD (g.set j c) i = cellD g i := by rw [cellD_set, if_neg (fun e => h e.1)]
theorem cellD_eq (g : List Ce) {j : Nat} (c : Ce) (h : j < g.length) : cellD (g.set j c) j = c := by rw [cellD_set, if_pos ⟨rfl, h⟩]
theorem cellD_ext {a b : List Ce} (hl : a.length = b.length) (h : ∀ i, cellD a i = cellD b i) : a = b := by
  refine List.ext_getElem hl fun i h1 h2 => ?_
  have := h i
  unfold cellD at this
  rw [getD_at _ _ _ h1, getD_at _ _ _ h2] at this
  exact this

/-! ### What a change of a cell that is no indirection leaves -/
theorem follow_set {g : List Ce} {j : Nat} {c : Ce} (hj : opAt g j ≠ 11) : ∀ (n a k : Nat), followN g n a = some k → k ≠ j → followN (g.set j c) n a = some k
  | 0, _, _, h, _ => by simp [followN] at h
  | n + 1, a, k, h, hk => by
    unfold followN at h ⊢
    split at h
    · rename_i h1
      have ha : a ≠ j := fun e => hj (e ▸ h1)
      rw [opAt_D, cellD_ne _ _ _ ha, ← opAt_D, if_pos h1, nxt_D, cellD_ne _ _ _ ha, ← nxt_D]
      exact follow_set hj n _ k h hk
    · rename_i h1
      simp only [Option.some.injEq] at h
      subst h
      rw [opAt_D, cellD_ne _ _ _ hk, ← opAt_D, if_neg h1]
/-- the same indirections lead to the same cell -/
theorem follow_agree {a b : List Ce} (h : ∀ x, opAt a x = 11 → cellD b x = cellD a x) : ∀ (n x k : Nat), followN a n x = some k → opAt b k ≠ 11 → followN b n x = some k
  | 0, _, _, h1, _ => by simp [followN] at h1
  | n + 1, x, k, h1, hk => by
    unfold followN at h1 ⊢
    split at h1
    · rename_i h2
      have e := h x h2
      rw [opAt_D, e, ← opAt_D, if_pos h2, nxt_D, e, ← nxt_D]
      exact follow_agree h n _ k h1 hk
    · simp only [Option.some.injEq] at h1
      subst h1
      rw [if_neg hk]

/-! ### Selections -/
def isSel (g : List Ce) (i : Nat) : Prop := opAt g i = 6 ∨ opAt g i = 7
instance (g : List Ce) (i : Nat) : Decidable (isSel g i) := by unfold isSel; infer_instance
/-- the part that a kind of selection takes of the pair k -/
def partG (g : List Ce) (op : Int) (k : Nat) : Nat := if op = 6 then kidAt g k 0 else kidAt g k 1
structure Enabled (g : List Ce) (i k : Nat) : Prop where
  lt : i < g.length
  sel : isSel g i
  fol : followN g g.length (kidAt g i 0) = some k
  pair : opAt g k = 5
def selAt (g : List Ce) (i k : Nat) : List Ce := g.set i (indTo (partG g (opAt g i) k))
/-- reached from g0 by n selections -/
inductive SelR (g0 : List Ce) : List Ce → Nat → Prop
  | zero : SelR g0 g0 0
  | step {g : List Ce} {n i k : Nat} : SelR g0 g n → Enabled g i k → SelR g0 (selAt g i k) (n + 1)
def SelMax (g : List Ce) : Prop := ∀ i k, ¬ Enabled g i k

theorem isSel_ne11 {g : List Ce} {i : Nat} (h : isSel g i) : opAt g i ≠ 11 := by unfold isSel at h; omega
theorem isSel_lt {g : List Ce} {i : Nat} (h : isSel g i) : i < g.length := by
  rcases Nat.lt_or_ge i g.length with h1 | h1
  · exact h1
  · unfold isSel opAt at h
    rw [List.getD_eq_getElem?_getD, List.getElem?_eq_none h1] at h
    simp at h
theorem op_lt {g : List Ce} {k : Nat} {o : Int} (ho : o ≠ 0) (h : opAt g k = o) : k < g.length := by
  rcases Nat.lt_or_ge k g.length with h1 | h1
  · exact h1
  · unfold opAt at h
    rw [List.getD_eq_getElem?_getD, List.getElem?_eq_none h1] at h
    exact absurd h.symm ho
theorem part_lt {g : List Ce} {defs : Int} (hg : graphB g defs = true) {k : Nat} (h : opAt g k = 5) (op : Int) : partG g op k < g.length := by
  have hk := op_lt (by omega) h
  have h1 := kids_count hg k hk
  rw [opAt_at k hk] at h
  rw [h] at h1
  have e : cArity 5 = 2 := by decide
  unfold partG
  split
  · exact (kidAt_get hg k hk 0 (by omega)).2
  · exact (kidAt_get hg k hk 1 (by omega)).2
theorem selAt_len (g : List Ce) (i k : Nat) : (selAt g i k).length = g.length := by unfold selAt; rw [List.length_set]
theorem selAt_valid {g : List Ce} {defs : Int} (hg : graphB g defs = true) {i k : Nat} (h : opAt g k = 5) : graphB (selAt g i k) defs = true := by
  obtain ⟨h1, h2⟩ := graphB_iff.1 hg
  refine graphB_iff.2 ⟨by rw [selAt_len]; exact h1, ?_⟩
  rw [selAt_len]
  exact h2.set i _ (ind_fits (part_lt hg h _))
/-- how many selections there are -/
def selB (c : Ce) : Bool := c.op == 6 || c.op == 7
theorem isSel_B (g : List Ce) (i : Nat) : isSel g i ↔ selB (cellD g i) = true := by unfold isSel selB; rw [opAt_D]; simp
theorem count_set : ∀ (g : List Ce) (i : Nat) (c : Ce), i < g.length → selB (cellD g i) = true → selB c = false → (g.set i c).countP selB + 1 = g.countP selB
  | [], _, _, h, _, _ => by simp at h
  | a :: g, 0, c, _, h1, h2 => by
    have h1 : selB a = true := h1
    simp [List.countP_cons, h1, h2]
  | a :: g, i + 1, c, h, h1, h2 => by
    have ih := count_set g i c (by simpa using h) h1 h2
    simp only [List.set_cons_succ, List.countP_cons]
    omega
theorem selB_ind (k : Nat) : selB (indTo k) = false := rfl

/-- what holds of every graph that is reached -/
structure SelInv (g0 : List Ce) (defs : Int) (g : List Ce) (n : Nat) : Prop where
  len : g.length = g0.length
  ok : graphB g defs = true
  cnt : g.countP selB + n = g0.countP selB
  cell : ∀ i, cellD g i = cellD g0 i ∨ (isSel g0 i ∧ ∃ k, followN g g.length (kidAt g0 i 0) = some k ∧ opAt g k = 5 ∧ cellD g i = indTo (partG g (opAt g0 i) k))
theorem SelInv.keep {g0 g : List Ce} {defs : Int} {n x : Nat} (h : SelInv g0 defs g n) (hx : ¬ isSel g0 x) : cellD g x = cellD g0 x := (h.cell x).elim id fun h => absurd h.1 hx
theorem SelInv.same {g0 g : List Ce} {defs : Int} {n x : Nat} (h : SelInv g0 defs g n) (hx : isSel g x) : cellD g x = cellD g0 x := (h.cell x).elim id fun h => by
  obtain ⟨-, k, -, -, e⟩ := h
  rw [isSel_B, e] at hx
  cases hx
theorem selR_inv {g0 g : List Ce} {defs : Int} {n : Nat} (hg : graphB g0 defs = true) (h : SelR g0 g n) : SelInv g0 defs g n := by
  induction h with
  | zero => exact ⟨rfl, hg, rfl, fun i => Or.inl rfl⟩
  | @step g n i k h he ih =>
    have h11 : opAt g i ≠ 11 := isSel_ne11 he.sel
    have hki : k ≠ i := fun e => by have := he.sel; have := he.pair; subst e; unfold isSel at *; omega
    refine ⟨(selAt_len g i k).trans ih.len, selAt_valid ih.ok he.pair, ?_, fun j => ?_⟩
    · have := count_set g i (indTo (partG g (opAt g i) k)) he.lt ((isSel_B _ _).1 he.sel) (selB_ind _)
      have := ih.cnt
      unfold selAt
      omega
    · have hp : ∀ (x : Nat) (op : Int), opAt g x = 5 → partG (selAt g i k) op x = partG g op x ∧ opAt (selAt g i k) x = 5 := by
        intro x op hx
        have hxi : x ≠ i := fun e => by have := he.sel; subst e; unfold isSel at *; omega
        unfold partG selAt
        refine ⟨?_, by rw [opAt_D, cellD_ne _ _ _ hxi]; exact hx⟩
        simp only [kidAt_D, cellD_ne _ _ _ hxi]
      by_cases hji : j = i
      · subst hji
        have e0 := ih.same he.sel
        refine Or.inr ⟨by rw [isSel_B, ← e0, ← isSel_B]; exact he.sel, k, ?_, (hp k 0 he.pair).2, ?_⟩
        · rw [selAt_len, kidAt_D, ← e0, ← kidAt_D]
          exact follow_set h11 _ _ _ he.fol hki
        · rw [(hp k _ he.pair).1]
          unfold selAt
          rw [cellD_eq _ _ he.lt]
          congr 2
          rw [opAt_D, opAt_D, e0]
      · have e1 : cellD (selAt g i k) j = cellD g j := cellD_ne _ _ _ hji
        rw [e1]
        rcases ih.cell j with h1 | ⟨h1, m, h2, h3, h4⟩
        · exact Or.inl h1
        · have hmi : m ≠ i := fun e => by have := he.sel; subst e; unfold isSel at *; omega
          exact Or.inr ⟨h1, m, by rw [selAt_len]; exact follow_set h11 _ _ _ h2 hmi, (hp m 0 h3).2, by rw [(hp m _ h3).1]; exact h4⟩
/-- what one has changed, the other has changed to the same -/
theorem sel_agree {g0 a b : List Ce} {defs : Int} {n m : Nat} (hg : graphB g0 defs = true) (ha : SelR g0 a n) (hb : SelR g0 b m) (hm : SelMax b) : ∀ i, cellD a i = cellD g0 i ∨ cellD a i = cellD b i := by
  have hB := selR_inv hg hb
  induction ha with
  | zero => exact fun i => Or.inl rfl
  | @step g n i k h he ih =>
    have hA := selR_inv hg h
    intro j
    by_cases hji : j = i
    · subst hji
      refine Or.inr ?_
      have e0 := hA.same he.sel
      have hs0 : isSel g0 j := by rw [isSel_B, ← e0, ← isSel_B]; exact he.sel
      have eqc : ∀ x, ¬ isSel g x → opAt g x ≠ 11 ∨ opAt g x = 11 → opAt g x = 5 ∨ opAt g x = 11 → cellD b x = cellD g x := by
        intro x hx _ h5
        rcases ih x with h1 | h1
        · rw [h1]
          refine hB.keep fun hs => hx ?_
          rw [isSel_B, h1, ← isSel_B]; exact hs
        · exact h1.symm
      have hfb : followN b b.length (kidAt g0 j 0) = some k := by
        rw [hB.len, ← hA.len]
        refine follow_agree (a := g) (fun x hx => eqc x (by unfold isSel; omega) (Or.inr hx) (Or.inr hx)) _ _ _ ?_ ?_
        · rw [kidAt_D, ← e0, ← kidAt_D]; exact he.fol
        · have hp := he.pair
          rw [opAt_D, eqc k (by unfold isSel; omega) (Or.inl (by omega)) (Or.inl hp), ← opAt_D]; omega
      have hkb : cellD b k = cellD g k := by have hp := he.pair; exact eqc k (by unfold isSel; omega) (Or.inl (by omega)) (Or.inl hp)
      have hpk : opAt b k = 5 := by rw [opAt_D, hkb, ← opAt_D]; exact he.pair
      rcases hB.cell j with h1 | ⟨-, k', h2, h3, h4⟩
      · refine absurd ?_ (hm j k)
        refine ⟨by rw [hB.len, ← hA.len]; exact he.lt, by rw [isSel_B, h1, ← isSel_B]; exact hs0, ?_, hpk⟩
        rw [kidAt_D, h1, ← kidAt_D]; exact hfb
      · rw [hfb] at h2
        simp only [Option.some.injEq] at h2
        subst h2
        rw [h4]
        unfold selAt
        rw [cellD_eq _ _ he.lt]
        congr 1
        unfold partG
        rw [show opAt g0 j = opAt g j by rw [opAt_D, opAt_D, e0]]
        simp only [kidAt_D, hkb]
    · have e1 : cellD (selAt g i k) j = cellD g j := cellD_ne _ _ _ hji
      rw [e1]
      exact ih j
/-- in whichever order -/
theorem sel_unique {g0 a b : List Ce} {defs : Int} {n m : Nat} (hg : graphB g0 defs = true) (ha : SelR g0 a n) (hma : SelMax a) (hb : SelR g0 b m) (hmb : SelMax b) : a = b ∧ n = m := by
  have hA := selR_inv hg ha
  have hB := selR_inv hg hb
  have e : a = b := by
    refine cellD_ext (hA.len.trans hB.len.symm) fun i => ?_
    rcases sel_agree hg ha hb hmb i with h1 | h1
    · rcases sel_agree hg hb ha hma i with h2 | h2
      · rw [h1, h2]
      · exact h2.symm
    · exact h1
  subst e
  have h1 := hA.cnt
  have h2 := hB.cnt
  exact ⟨rfl, by omega⟩

/-! ### The worklist -/
structure WL (g : List Ce) (work : List Nat) (wt : Nat → List Nat) : Prop where
  all : ∀ i, isSel g i → i ∈ work ∨ (∃ f, isSel g f ∧ i ∈ wt f ∧ followN g g.length (kidAt g i 0) = some f) ∨ followN g g.length (kidAt g i 0) = none ∨ ∃ k, followN g g.length (kidAt g i 0) = some k ∧ opAt g k ≠ 5 ∧ ¬ isSel g k
  nd : work.Nodup
  wk : ∀ i ∈ work, isSel g i
  wnd : ∀ f, isSel g f → (wt f).Nodup
  wsel : ∀ f, isSel g f → ∀ i ∈ wt f, isSel g i ∧ i ∉ work
  dis : ∀ f f' i, isSel g f → isSel g f' → i ∈ wt f → i ∈ wt f' → f = f'
theorem WL.fin {g : List Ce} {wt : Nat → List Nat} (h : WL g [] wt) : SelMax g := by
  intro i k he
  have hf := he.fol
  have hp := he.pair
  rcases h.all i he.sel with h1 | ⟨f, h1, -, h3⟩ | h1 | ⟨k', h1, h2, -⟩
  · simp at h1
  · rw [hf] at h3; simp only [Option.some.injEq] at h3; subst h3; unfold isSel at h1; omega
  · rw [hf] at h1; cases h1
  · rw [hf] at h1; simp only [Option.some.injEq] at h1; subst h1; exact h2 hp
theorem WL.start {g : List Ce} {work : List Nat} (hn : work.Nodup) (h : ∀ i, i ∈ work ↔ isSel g i) : WL g work (fun _ => []) :=
  ⟨fun i hi => Or.inl ((h i).2 hi), hn, fun i hi => (h i).1 hi, fun _ _ => by simp, fun _ _ i hi => by simp at hi, fun _ _ i _ _ hi => by simp at hi⟩
theorem WL.len {g : List Ce} {work : List Nat} {wt : Nat → List Nat} (h : WL g work wt) : work.length ≤ g.length := nodup_len h.nd fun i hi => isSel_lt (h.wk i hi)
end Go.Proofs.Ytidijbnoaeopdaa
/-
  PLAIN: roots of a graph; the marks of an order. No program is named here.
-/
namespace Go.Proofs.Ytidijbnoaeopdaa
set_option linter.unusedVariables false
set_option linter.unusedSimpArgs false

/-- different cells of a graph -/
def Cs (n : Nat) (o : List Nat) : Prop := o.Nodup ∧ ∀ x ∈ o, x < n
theorem Cs.len {n : Nat} {o : List Nat} (h : Cs n o) : o.length ≤ n := nodup_len h.1 h.2
theorem Cs.nil (n : Nat) : Cs n [] := ⟨by simp, fun x hx => by simp at hx⟩
theorem Cs.visit {n : Nat} {o : List Nat} {x : Nat} (h : Cs n o) (hx : x < n) : Cs n (visit o x) := ⟨visit_nodup h.1, fun y hy => by
  rcases visit_of hy with h1 | rfl
  · exact h.2 y h1
  · exact hx⟩
theorem OrdRel.cs {g : List Ce} {roots : List Nat} {i : Nat} {out : List Nat} (h : OrdRel g roots i out) : Cs g.length out := ⟨h.nd, h.lt⟩
end Go.Proofs.Ytidijbnoaeopdaa
/-
  PLAIN: what CopyGraph, CopyOrder and CollectGraph answer. No program is named here.
-/
namespace Go.Proofs.Ytidijbnoaeopdaa
set_option linter.unusedVariables false
set_option linter.unusedSimpArgs false

theorem order_closed {g : List Ce} {roots : List Nat} (hg : graphB g 6 = true) (hr : ∀ x ∈ roots, x < g.length) : ∀ a ∈ orderG g roots, ∀ k ∈ kidsN g a, k ∈ orderG g roots := by
  obtain ⟨i, h, hi⟩ := order_rel hg hr
  intro a ha k hk
  obtain ⟨j, hj, rfl⟩ := List.getElem_of_mem ha
  refine h.cl j (by omega) k ?_
  rw [getD_at _ _ _ hj]; exact hk
theorem order_cs {g : List Ce} {roots : List Nat} (hg : graphB g 6 = true) (hr : ∀ x ∈ roots, x < g.length) : Cs g.length (orderG g roots) := by
  obtain ⟨i, h, hi⟩ := order_rel hg hr
  exact h.cs
theorem order_root {g : List Ce} {roots : List Nat} (hg : graphB g 6 = true) (hr : ∀ x ∈ roots, x < g.length) : ∀ x ∈ roots, x ∈ orderG g roots := by
  obtain ⟨i, h, hi⟩ := order_rel hg hr
  exact h.rt
/-! ### Past indirections -/
def skipN (g : List Ce) (a : Nat) : Nat := (followN g g.length a).getD a
def shortC (g : List Ce) (c : Ce) : Ce := ⟨c.op, c.num, (c.kids.map Int.toNat).map fun k => (skipN g k : Int)⟩
def shortG (g : List Ce) : List Ce := g.map (shortC g)
theorem skip_lt {g : List Ce} {defs : Int} (h : graphB g defs = true) {a : Nat} (ha : a < g.length) : skipN g a < g.length := by
  unfold skipN
  cases hf : followN g g.length a with
  | none => exact ha
  | some b => exact (followN_lt h _ a b ha hf).1
theorem shortG_len (g : List Ce) : (shortG g).length = g.length := by simp [shortG]
theorem shortG_at (g : List Ce) (i : Nat) (h : i < g.length) : (shortG g)[i]'(by rw [shortG_len]; exact h) = shortC g g[i] := by simp [shortG]
theorem shortG_valid {g : List Ce} {defs : Int} (h : graphB g defs = true) : graphB (shortG g) defs = true := by
  have h' := h
  unfold graphB at h ⊢
  simp only [Bool.and_eq_true, List.all_eq_true, decide_eq_true_eq] at h ⊢
  rw [shortG_len]
  refine ⟨h.1, fun c hc => ?_⟩
  obtain ⟨i, hi, rfl⟩ := List.getElem_of_mem hc
  rw [shortG_len] at hi
  rw [shortG_at g i hi]
  have hc := graphB_cell h' i hi
  unfold cellB fitsB shortC at *
  simp only [Bool.and_eq_true, decide_eq_true_eq, List.length_map] at hc ⊢
  refine ⟨hc.1, ?_⟩
  rw [List.all_eq_true]
  intro x hx
  simp only [List.mem_map] at hx
  obtain ⟨k, ⟨y, hy, rfl⟩, rfl⟩ := hx
  have hy2 := (kids_graph h' i hi).2 y hy
  have := skip_lt h' (a := y.toNat) (by omega)
  simp only [isAt, decide_eq_true_eq]
  omega
/-! ### How large -/
theorem kidsSum_le3 : ∀ (g : List Ce), (∀ c ∈ g, c.kids.length ≤ 3) → sumK g ≤ 3 * g.length
  | [], _ => by simp [sumK]
  | c :: g, h => by
    have h1 := h c (List.mem_cons_self ..)
    have h2 := kidsSum_le3 g fun d hd => h d (List.mem_cons_of_mem _ hd)
    have h3 : sumK (c :: g) = c.kids.length + sumK g := by simp [sumK]
    rw [h3]
    simp only [List.length_cons]
    omega
end Go.Proofs.Ytidijbnoaeopdaa
/-
  PLAIN: what SelectGraph and TidyGraph answer. No program is named here.
-/
namespace Go.Proofs.Ytidijbnoaeopdaa
set_option linter.unusedVariables false
set_option linter.unusedSimpArgs false

open Classical in
/-- the graph in the end, and how many selections were made -/
noncomputable def selRes (g : List Ce) : List Ce × Nat := if h : ∃ p : List Ce × Nat, SelR g p.1 p.2 ∧ SelMax p.1 then h.choose else (g, 0)
theorem selRes_eq {g G : List Ce} {defs : Int} {n : Nat} (hg : graphB g defs = true) (h : SelR g G n) (hm : SelMax G) : selRes g = (G, n) := by
  have hx : ∃ p : List Ce × Nat, SelR g p.1 p.2 ∧ SelMax p.1 := ⟨(G, n), h, hm⟩
  unfold selRes
  rw [dif_pos hx]
  obtain ⟨h1, h2⟩ := hx.choose_spec
  obtain ⟨e1, e2⟩ := sel_unique hg h1 h2 h hm
  exact Prod.ext e1 e2
theorem sel_ends {g : List Ce} {defs : Int} (hg : graphB g defs = true) : ∃ G n, SelR g G n ∧ SelMax G := by
  have key : ∀ c G n, SelR g G n → G.countP selB = c → ∃ G n, SelR g G n ∧ SelMax G := by
    intro c
    induction c using Nat.strongRecOn with
    | ind c ih =>
      intro G n h hc
      by_cases hm : SelMax G
      · exact ⟨G, n, h, hm⟩
      · unfold SelMax at hm
        have hm : ∃ i k, Enabled G i k := by
          refine Classical.byContradiction fun hn => hm fun i k he => hn ⟨i, k, he⟩
        obtain ⟨i, k, he⟩ := hm
        have h1 := (selR_inv hg h).cnt
        have h2 := (selR_inv hg (h.step he)).cnt
        exact ih _ (by omega) _ _ (h.step he) rfl
  exact key _ g 0 .zero rfl
theorem selRes_rel {g : List Ce} {defs : Int} (hg : graphB g defs = true) : SelR g (selRes g).1 (selRes g).2 := by
  obtain ⟨G, n, h, hm⟩ := sel_ends hg
  rw [selRes_eq hg h hm]; exact h
theorem selRes_ok {g : List Ce} {defs : Int} (hg : graphB g defs = true) : graphB (selRes g).1 defs = true ∧ (selRes g).1.length = g.length ∧ (selRes g).2 ≤ g.length := by
  have h := selR_inv hg (selRes_rel hg)
  refine ⟨h.ok, h.len, ?_⟩
  have := h.cnt
  have : g.countP selB ≤ g.length := List.countP_le_length
  omega
end Go.Proofs.Ytidijbnoaeopdaa
/-
  PLAIN: the expression for which a cell stands, read with a budget of nodes and of depth. No program is named here.
-/
namespace Go.Proofs.Ytidijbnoaeopdaa
set_option linter.unusedVariables false
set_option linter.unusedSimpArgs false

end Go.Proofs.Ytidijbnoaeopdaa
/-
  TREES WHOSE BLOCKS ARE ALL DISTINCT: a footprint, the list of the blocks of a tree's rows; what a write into them leaves.
-/
namespace Go.Proofs.Ytidijbnoaeopdaa
set_option linter.unusedVariables false
set_option linter.unusedSimpArgs false
open Go.RowKit

mutual
/-- the three cells of a tree, its rows in the blocks fp -/
def TrFp (w : World) (T : TypeId) : Tr → List Nat → Value → Value → Value → Prop
  | .node op n ks, fp, a, b, c => a = .int .i64 op ∧ b = .int .i64 n ∧ I64 op ∧ I64 n ∧
      ∃ ad cap, c = .slice ad ks.length cap ∧ ks.length ≤ cap ∧ cap ≤ maxLen ∧
        ((ks = [] ∧ fp = []) ∨ ∃ bl off C fps, ad = some ⟨bl, off, none⟩ ∧ w.heap[bl]? = some (.cells C T) ∧ fp = bl :: fps.flatten ∧ RowFp w T bl off ks fps)
/-- the trees of a row, each with its own blocks -/
def RowFp (w : World) (T : TypeId) (bl off : Nat) : List Tr → List (List Nat) → Prop
  | [], fps => fps = []
  | t :: ts, fps => ∃ f fs, fps = f :: fs ∧ (∃ a b c, w.cell? ⟨bl, off, none⟩ = some a ∧ w.cell? ⟨bl, off + 1, none⟩ = some b ∧ w.cell? ⟨bl, off + 2, none⟩ = some c ∧ TrFp w T t f a b c) ∧ RowFp w T bl (off + 3) ts fs
end

/-- a slice value that holds these trees, in the blocks fp -/
def KidsFp (w : World) (T : TypeId) (ks : List Tr) (fp : List Nat) (c : Value) : Prop :=
  ∃ ad cap, c = .slice ad ks.length cap ∧ ks.length ≤ cap ∧ cap ≤ maxLen ∧
    ((ks = [] ∧ fp = []) ∨ ∃ bl off C fps, ad = some ⟨bl, off, none⟩ ∧ w.heap[bl]? = some (.cells C T) ∧ fp = bl :: fps.flatten ∧ RowFp w T bl off ks fps)

theorem trFp_iff {w : World} {T : TypeId} {t : Tr} {fp : List Nat} {a b c : Value} : TrFp w T t fp a b c ↔ a = .int .i64 t.op ∧ b = .int .i64 t.num ∧ I64 t.op ∧ I64 t.num ∧ KidsFp w T t.kids fp c := by
  cases t; simp [TrFp, KidsFp]

mutual
theorem TrFp.keep {w w' : World} {T : TypeId} : ∀ (t : Tr) (fp : List Nat) (a b c : Value), (∀ k ∈ fp, w'.heap[k]? = w.heap[k]?) → TrFp w T t fp a b c → TrFp w' T t fp a b c
  | .node op n ks, fp, a, b, c, hw, h => by
    simp only [TrFp] at h ⊢
    obtain ⟨h1, h2, h3, h4, ad, cap, e, l1, l2, h5⟩ := h
    refine ⟨h1, h2, h3, h4, ad, cap, e, l1, l2, ?_⟩
    rcases h5 with h5 | ⟨bl, off, C, fps, e, hb, rfl, r⟩
    · exact Or.inl h5
    · exact Or.inr ⟨bl, off, C, fps, e, (hw bl (by simp)).trans hb, rfl, RowFp.keep bl off ks fps (hw bl (by simp)) (fun f hf k hk => hw k (by simp only [List.mem_cons, List.mem_flatten]; exact Or.inr ⟨f, hf, hk⟩)) r⟩
theorem RowFp.keep {w w' : World} {T : TypeId} (bl off : Nat) : ∀ (ks : List Tr) (fps : List (List Nat)), w'.heap[bl]? = w.heap[bl]? → (∀ f ∈ fps, ∀ k ∈ f, w'.heap[k]? = w.heap[k]?) → RowFp w T bl off ks fps → RowFp w' T bl off ks fps
  | [], fps, _, _, h => by simpa [RowFp] using h
  | t :: ts, fps, hb, hw, h => by
    simp only [RowFp] at h ⊢
    obtain ⟨f, fs, rfl, ⟨a, b, c, ha, hbb, hc, ht⟩, hr⟩ := h
    refine ⟨f, fs, rfl, ⟨a, b, c, ?_, ?_, ?_, TrFp.keep t f a b c (hw f (by simp)) ht⟩, RowFp.keep bl (off + 3) ts fs hb (fun g hg => hw g (by simp [hg])) hr⟩
    · rw [World.cell?_of_block (w := w) hb]; exact ha
    · rw [World.cell?_of_block (w := w) hb]; exact hbb
    · rw [World.cell?_of_block (w := w) hb]; exact hc
end
theorem KidsFp.keep {w w' : World} {T : TypeId} {ks : List Tr} {fp : List Nat} {c : Value} (h : KidsFp w T ks fp c) (hw : ∀ k ∈ fp, w'.heap[k]? = w.heap[k]?) : KidsFp w' T ks fp c := by
  obtain ⟨ad, cap, e, l1, l2, h5⟩ := h
  refine ⟨ad, cap, e, l1, l2, ?_⟩
  rcases h5 with h5 | ⟨bl, off, C, fps, e, hb, rfl, r⟩
  · exact Or.inl h5
  · exact Or.inr ⟨bl, off, C, fps, e, (hw bl (by simp)).trans hb, rfl, RowFp.keep bl off ks fps (hw bl (by simp)) (fun f hf k hk => hw k (by simp only [List.mem_cons, List.mem_flatten]; exact Or.inr ⟨f, hf, hk⟩)) r⟩

/-- the blocks lie in the heap -/
theorem cellsOf_lt {w : World} {b : Nat} {o : Obj} (h : w.heap[b]? = some o) : b < w.heap.size := (Array.getElem?_eq_some_iff.1 h).1
mutual
theorem TrFp.on {w : World} {T : TypeId} {S : Nat → Prop} : ∀ (t : Tr) (fp : List Nat) (a b c : Value), (∀ k ∈ fp, S k) → TrFp w T t fp a b c → TrOn w S t a b c
  | .node op n ks, fp, a, b, c, hS, h => by
    simp only [TrFp] at h
    simp only [TrOn]
    obtain ⟨h1, h2, h3, h4, ad, cap, e, l1, l2, h5⟩ := h
    refine ⟨h1, h2, h3, h4, ad, cap, e, l1, l2, ?_⟩
    rcases h5 with ⟨h5, _⟩ | ⟨bl, off, C, fps, e, hb, rfl, r⟩
    · exact Or.inl h5
    · exact Or.inr ⟨bl, off, e, hS bl (by simp), RowFp.on bl off ks fps (fun f hf k hk => hS k (by simp only [List.mem_cons, List.mem_flatten]; exact Or.inr ⟨f, hf, hk⟩)) r⟩
theorem RowFp.on {w : World} {T : TypeId} {S : Nat → Prop} (bl off : Nat) : ∀ (ks : List Tr) (fps : List (List Nat)), (∀ f ∈ fps, ∀ k ∈ f, S k) → RowFp w T bl off ks fps → RowOn w S bl off ks
  | [], fps, _, h => by simp [RowOn]
  | t :: ts, fps, hS, h => by
    simp only [RowFp] at h
    simp only [RowOn]
    obtain ⟨f, fs, rfl, ⟨a, b, c, ha, hbb, hc, ht⟩, hr⟩ := h
    exact ⟨⟨a, b, c, ha, hbb, hc, TrFp.on t f a b c (hS f (by simp)) ht⟩, RowFp.on bl (off + 3) ts fs (fun g hg => hS g (by simp [hg])) hr⟩
end
theorem KidsFp.on {w : World} {T : TypeId} {S : Nat → Prop} {ks : List Tr} {fp : List Nat} {c : Value} (h : KidsFp w T ks fp c) (hS : ∀ k ∈ fp, S k) : KidsOn w S ks c := by
  obtain ⟨ad, cap, e, l1, l2, h5⟩ := h
  refine ⟨ad, cap, e, l1, l2, ?_⟩
  rcases h5 with ⟨h5, _⟩ | ⟨bl, off, C, fps, e, hb, rfl, r⟩
  · exact Or.inl h5
  · exact Or.inr ⟨bl, off, e, hS bl (by simp), RowFp.on bl off ks fps (fun f hf k hk => hS k (by simp only [List.mem_cons, List.mem_flatten]; exact Or.inr ⟨f, hf, hk⟩)) r⟩

/-- element i of a row -/
theorem RowFp.at {w : World} {T : TypeId} {bl : Nat} : ∀ (ks : List Tr) (fps : List (List Nat)) (off i : Nat) (hi : i < ks.length), RowFp w T bl off ks fps →
    fps.length = ks.length ∧ ∃ f, fps[i]? = some f ∧ ∃ a b c, w.cell? ⟨bl, off + i * 3, none⟩ = some a ∧ w.cell? ⟨bl, off + i * 3 + 1, none⟩ = some b ∧ w.cell? ⟨bl, off + i * 3 + 2, none⟩ = some c ∧ TrFp w T ks[i] f a b c
  | [], _, _, _, hi, _ => by simp at hi
  | t :: ts, fps, off, 0, _, h => by
    simp only [RowFp] at h
    obtain ⟨f, fs, rfl, h1, h2⟩ := h
    refine ⟨?_, f, rfl, by simpa using h1⟩
    cases ts with
    | nil => simp only [RowFp] at h2; simp [h2]
    | cons u us => simp [(RowFp.at (u :: us) fs (off + 3) 0 (by simp) h2).1]
  | t :: ts, fps, off, i + 1, hi, h => by
    simp only [RowFp] at h
    obtain ⟨f, fs, rfl, h1, h2⟩ := h
    have := RowFp.at ts fs (off + 3) i (by simpa using hi) h2
    have e : off + 3 + i * 3 = off + (i + 1) * 3 := by omega
    rw [e] at this
    exact ⟨by simp [this.1], by simpa using this.2⟩

/-- a row from its elements -/
theorem RowFp.of {w : World} {T : TypeId} {bl : Nat} : ∀ (ks : List Tr) (fps : List (List Nat)) (off : Nat), fps.length = ks.length →
    (∀ i (hi : i < ks.length), ∃ f, fps[i]? = some f ∧ ∃ a b c, w.cell? ⟨bl, off + i * 3, none⟩ = some a ∧ w.cell? ⟨bl, off + i * 3 + 1, none⟩ = some b ∧ w.cell? ⟨bl, off + i * 3 + 2, none⟩ = some c ∧ TrFp w T ks[i] f a b c) → RowFp w T bl off ks fps
  | [], fps, _, hl, _ => by simpa [RowFp] using hl
  | t :: ts, [], _, hl, _ => by simp at hl
  | t :: ts, f :: fs, off, hl, h => by
    simp only [RowFp]
    refine ⟨f, fs, rfl, ?_, RowFp.of ts fs (off + 3) (by simpa using hl) fun i hi => ?_⟩
    · obtain ⟨f', hf, a, b, c, h1⟩ := h 0 (by simp)
      simp only [List.getElem?_cons_zero, Option.some.injEq] at hf
      subst hf
      simp only [Nat.zero_mul, Nat.add_zero, List.getElem_cons_zero] at h1
      exact ⟨a, b, c, h1⟩
    · have := h (i + 1) (by simpa using hi)
      have e : off + (i + 1) * 3 = off + 3 + i * 3 := by omega
      rw [e] at this
      simpa using this

/-! ### Numbered trees -/
/-- the trees of a list with their numbers replaced, in order, from k on -/
def labL : List Tr → Int → List Tr
  | [], _ => []
  | .node _ _ ks :: ts, k => .node k (k + 1) (labL ks (k + 2)) :: labL ts (k + 2 + 2 * (szL ks : Int))
theorem labL_length : ∀ (ts : List Tr) (k : Int), (labL ts k).length = ts.length
  | [], _ => by simp [labL]
  | .node _ _ ks :: ts, k => by simp [labL, labL_length ts]
theorem labL_cons (t : Tr) (ts : List Tr) (k : Int) : labL (t :: ts) k = .node k (k + 1) (labL t.kids (k + 2)) :: labL ts (k + 2 + 2 * (szT t : Int)) := by
  cases t; simp [labL, szT]
end Go.Proofs.Ytidijbnoaeopdaa
/-
  THE NUMBERS THAT MARKED TREES BEAR, element by element.
-/
namespace Go.Proofs.Ytidijbnoaeopdaa
set_option linter.unusedVariables false
set_option linter.unusedSimpArgs false
open Go.RowKit

/-- the number that stands at element i -/
def labAt (ks : List Tr) (k : Int) (i : Nat) : Int := k + 2 * (szL (ks.take i) : Int)
theorem labAt_zero (ks : List Tr) (k : Int) : labAt ks k 0 = k := by simp [labAt, szL]
theorem labAt_end (ks : List Tr) (k : Int) : labAt ks k ks.length = k + 2 * (szL ks : Int) := by simp [labAt]
theorem labAt_succ (ks : List Tr) (k : Int) (i : Nat) (hi : i < ks.length) : labAt ks k (i + 1) = labAt ks k i + 2 + 2 * (szL ks[i].kids : Int) := by
  unfold labAt
  rw [szL_take_succ ks i hi, szT_eq]
  push_cast
  omega
theorem labAt_le (ks : List Tr) (k : Int) (i : Nat) : k ≤ labAt ks k i ∧ labAt ks k i ≤ k + 2 * (szL ks : Int) := by
  have := szL_take_le ks i
  unfold labAt
  omega
theorem labL_get : ∀ (ks : List Tr) (k : Int) (i : Nat) (hi : i < ks.length) (hj : i < (labL ks k).length), (labL ks k)[i] = .node (labAt ks k i) (labAt ks k i + 1) (labL ks[i].kids (labAt ks k i + 2))
  | [], _, _, hi, _ => by simp at hi
  | t :: ts, k, 0, _, _ => by simp [labL_cons, labAt_zero]
  | t :: ts, k, i + 1, hi, hj => by
    have := labL_get ts (k + 2 + 2 * (szT t : Int)) i (by simpa using hi) (by rw [labL_length]; simpa using hi)
    simp only [labL_cons, List.getElem_cons_succ, this]
    have e : labAt ts (k + 2 + 2 * (szT t : Int)) i = labAt (t :: ts) k (i + 1) := by
      unfold labAt
      simp only [List.take_succ_cons, szL]
      push_cast
      omega
    rw [e]

end Go.Proofs.Ytidijbnoaeopdaa

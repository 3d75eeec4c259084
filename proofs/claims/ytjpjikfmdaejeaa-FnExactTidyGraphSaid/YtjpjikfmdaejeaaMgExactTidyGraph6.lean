/-
  PLAIN: selections that are made early: in whichever order, the graph in the end is the same, and so is their number; a worklist with cells that wait for others finds them all. No program is named here.
-/
import Derived.Test.YtjpjikfmdaejeaaMgExactTidyGraph5
import Derived.Test.YtjpjikfmdaejeaaMgExactTidyGraph2
import Derived.Test.YtjpjikfmdaejeaaMgExactTidyGraph3
import Derived.Test.YtjpjikfmdaejeaaMgExactTidyGraph4
import Derived.Laws.OwnMore
import Derived.Test.YtjpjikfmdaejeaaMgExactTidyGraph1
import Derived.Maps.OwnSet
import Derived.Deep.DeepCutAuto
import Derived.Deep.RegionWith
import Derived.Deep.RegionHeld3
import Derived.Deep.RegionLaw
import Derived.IntWalk
namespace Go.Proofs.Ytjpjikfmdaejeaa
set_option linter.unusedVariables false
set_option linter.unusedSimpArgs false

/-- cell a, or none -/
def cellD (g : List Ce) (a : Nat) : Ce := g.getD a ⟨0, 0, []⟩
theorem opAt_D (g : List Ce) (a : Nat) : opAt g a = (cellD g a).op := rfl
theorem nxt_D (g : List Ce) (a : Nat) : nxt g a = (kid0 (cellD g a)).toNat := rfl
theorem kidAt_D (g : List Ce) (a j : Nat) : kidAt g a j = ((cellD g a).kids.map Int.toNat).getD j 0 := rfl
theorem cellD_set (g : List Ce) (j : Nat) (c : Ce) (i : Nat) : cellD (g.set j c) i = if i = j ∧ j < g.length then c else cellD g i := by
  unfold cellD
  rw [List.getD_eq_getElem?_getD, List.getD_eq_getElem?_getD, List.getElem?_set]
  by_cases h : j = i
  · subst h
    by_cases h2 : j < g.length
    · simp [h2]
    · simp [h2]
  · rw [if_neg h, if_neg (fun e => h e.1.symm)]
theorem cellD_ne (g : List Ce) (j : Nat) (c : Ce) {i : Nat} (h : i ≠ j) : cellD (g.set j c) i = cellD g i := by rw [cellD_set, if_neg (fun e => h e.1)]
theorem cellD_eq (g : List Ce) {j : Nat} (c : Ce) (h : j < g.length) : cellD (g.set j c) j = c := by rw [cellD_set, if_pos ⟨rfl, h⟩]
theorem cellD_ext {a b : List Ce} (hl : a.length = b.length) (h : ∀ i, cellD a i = cellD b i) : a = b := by
  refine List.ext_getElem hl fun i h1 h2 => ?_
  have := h i
  unfold cellD at this
  rw [getD_at _ _ _ h1, getD_at _ _ _ h2] at this
  exact this

/-! ### What a change of a cell that is no indirection leaves -/
theorem follow_set {g : List Ce} {j : Nat} {c : Ce} (hj : opAt g j ≠ 11) : ∀ (n a k : Nat), followN g n a = some k → k ≠ j → followN (g.set j c) n a = some k
  | 0, _, _, h, _ => by simp [followN] at h
  | n + 1, a, k, h, hk => by
    unfold followN at h ⊢
    split at h
    · rename_i h1
      have ha : a ≠ j := fun e => hj (e ▸ h1)
      rw [opAt_D, cellD_ne _ _ _ ha, ← opAt_D, if_pos h1, nxt_D, cellD_ne _ _ _ ha, ← nxt_D]
      exact follow_set hj n _ k h hk
    · rename_i h1
      simp only [Option.some.injEq] at h
      subst h
      rw [opAt_D, cellD_ne _ _ _ hk, ← opAt_D, if_neg h1]
theorem follow_setn {g : List Ce} {j : Nat} {c : Ce} (hj : opAt g j ≠ 11) : ∀ (n a : Nat), followN g n a = none → followN (g.set j c) n a = none
  | 0, _, _ => rfl
  | n + 1, a, h => by
    unfold followN at h ⊢
    split at h
    · rename_i h1
      have ha : a ≠ j := fun e => hj (e ▸ h1)
      rw [opAt_D, cellD_ne _ _ _ ha, ← opAt_D, if_pos h1, nxt_D, cellD_ne _ _ _ ha, ← nxt_D]
      exact follow_setn hj n _ h
    · simp at h
/-- the same indirections lead to the same cell -/
theorem follow_agree {a b : List Ce} (h : ∀ x, opAt a x = 11 → cellD b x = cellD a x) : ∀ (n x k : Nat), followN a n x = some k → opAt b k ≠ 11 → followN b n x = some k
  | 0, _, _, h1, _ => by simp [followN] at h1
  | n + 1, x, k, h1, hk => by
    unfold followN at h1 ⊢
    split at h1
    · rename_i h2
      have e := h x h2
      rw [opAt_D, e, ← opAt_D, if_pos h2, nxt_D, e, ← nxt_D]
      exact follow_agree h n _ k h1 hk
    · simp only [Option.some.injEq] at h1
      subst h1
      rw [if_neg hk]

/-! ### Selections -/
def isSel (g : List Ce) (i : Nat) : Prop := opAt g i = 6 ∨ opAt g i = 7
instance (g : List Ce) (i : Nat) : Decidable (isSel g i) := by unfold isSel; infer_instance
/-- the part that a kind of selection takes of the pair k -/
def partG (g : List Ce) (op : Int) (k : Nat) : Nat := if op = 6 then kidAt g k 0 else kidAt g k 1
structure Enabled (g : List Ce) (i k : Nat) : Prop where
  lt : i < g.length
  sel : isSel g i
  fol : followN g g.length (kidAt g i 0) = some k
  pair : opAt g k = 5
def selAt (g : List Ce) (i k : Nat) : List Ce := g.set i (indTo (partG g (opAt g i) k))
/-- reached from g0 by n selections -/
inductive SelR (g0 : List Ce) : List Ce → Nat → Prop
  | zero : SelR g0 g0 0
  | step {g : List Ce} {n i k : Nat} : SelR g0 g n → Enabled g i k → SelR g0 (selAt g i k) (n + 1)
def SelMax (g : List Ce) : Prop := ∀ i k, ¬ Enabled g i k

theorem isSel_ne11 {g : List Ce} {i : Nat} (h : isSel g i) : opAt g i ≠ 11 := by unfold isSel at h; omega
theorem isSel_lt {g : List Ce} {i : Nat} (h : isSel g i) : i < g.length := by
  rcases Nat.lt_or_ge i g.length with h1 | h1
  · exact h1
  · unfold isSel opAt at h
    rw [List.getD_eq_getElem?_getD, List.getElem?_eq_none h1] at h
    simp at h
theorem kids_sel {g : List Ce} {defs : Int} (hg : graphB g defs = true) {i : Nat} (h : isSel g i) : ∃ h1 : i < g.length, g[i].kids.length = 1 ∧ kidAt g i 0 < g.length := by
  have hi := isSel_lt h
  have h1 := kids_count hg i hi
  have hk : g[i].kids.length = 1 := by
    unfold isSel at h
    rw [opAt_at i hi] at h
    rcases h with h | h <;> rw [h] at h1 <;> have e : cArity 6 = 1 ∧ cArity 7 = 1 := by decide
    all_goals omega
  exact ⟨hi, hk, (kidAt_get hg i hi 0 (by omega)).2⟩
theorem op_lt {g : List Ce} {k : Nat} {o : Int} (ho : o ≠ 0) (h : opAt g k = o) : k < g.length := by
  rcases Nat.lt_or_ge k g.length with h1 | h1
  · exact h1
  · unfold opAt at h
    rw [List.getD_eq_getElem?_getD, List.getElem?_eq_none h1] at h
    exact absurd h.symm ho
theorem part_lt {g : List Ce} {defs : Int} (hg : graphB g defs = true) {k : Nat} (h : opAt g k = 5) (op : Int) : partG g op k < g.length := by
  have hk := op_lt (by omega) h
  have h1 := kids_count hg k hk
  rw [opAt_at k hk] at h
  rw [h] at h1
  have e : cArity 5 = 2 := by decide
  unfold partG
  split
  · exact (kidAt_get hg k hk 0 (by omega)).2
  · exact (kidAt_get hg k hk 1 (by omega)).2
theorem selAt_len (g : List Ce) (i k : Nat) : (selAt g i k).length = g.length := by unfold selAt; rw [List.length_set]
theorem selAt_valid {g : List Ce} {defs : Int} (hg : graphB g defs = true) {i k : Nat} (h : opAt g k = 5) : graphB (selAt g i k) defs = true := by
  obtain ⟨h1, h2⟩ := graphB_iff.1 hg
  refine graphB_iff.2 ⟨by rw [selAt_len]; exact h1, ?_⟩
  rw [selAt_len]
  exact h2.set i _ (ind_fits (part_lt hg h _))
/-- how many selections there are -/
def selB (c : Ce) : Bool := c.op == 6 || c.op == 7
theorem isSel_B (g : List Ce) (i : Nat) : isSel g i ↔ selB (cellD g i) = true := by unfold isSel selB; rw [opAt_D]; simp
theorem count_set : ∀ (g : List Ce) (i : Nat) (c : Ce), i < g.length → selB (cellD g i) = true → selB c = false → (g.set i c).countP selB + 1 = g.countP selB
  | [], _, _, h, _, _ => by simp at h
  | a :: g, 0, c, _, h1, h2 => by
    have h1 : selB a = true := h1
    simp [List.countP_cons, h1, h2]
  | a :: g, i + 1, c, h, h1, h2 => by
    have ih := count_set g i c (by simpa using h) h1 h2
    simp only [List.set_cons_succ, List.countP_cons]
    omega
theorem selB_ind (k : Nat) : selB (indTo k) = false := rfl

/-- what holds of every graph that is reached -/
structure SelInv (g0 : List Ce) (defs : Int) (g : List Ce) (n : Nat) : Prop where
  len : g.length = g0.length
  ok : graphB g defs = true
  cnt : g.countP selB + n = g0.countP selB
  cell : ∀ i, cellD g i = cellD g0 i ∨ (isSel g0 i ∧ ∃ k, followN g g.length (kidAt g0 i 0) = some k ∧ opAt g k = 5 ∧ cellD g i = indTo (partG g (opAt g0 i) k))
theorem SelInv.keep {g0 g : List Ce} {defs : Int} {n x : Nat} (h : SelInv g0 defs g n) (hx : ¬ isSel g0 x) : cellD g x = cellD g0 x := (h.cell x).elim id fun h => absurd h.1 hx
theorem SelInv.same {g0 g : List Ce} {defs : Int} {n x : Nat} (h : SelInv g0 defs g n) (hx : isSel g x) : cellD g x = cellD g0 x := (h.cell x).elim id fun h => by
  obtain ⟨-, k, -, -, e⟩ := h
  rw [isSel_B, e] at hx
  cases hx
theorem selR_inv {g0 g : List Ce} {defs : Int} {n : Nat} (hg : graphB g0 defs = true) (h : SelR g0 g n) : SelInv g0 defs g n := by
  induction h with
  | zero => exact ⟨rfl, hg, rfl, fun i => Or.inl rfl⟩
  | @step g n i k h he ih =>
    have h11 : opAt g i ≠ 11 := isSel_ne11 he.sel
    have hki : k ≠ i := fun e => by have := he.sel; have := he.pair; subst e; unfold isSel at *; omega
    refine ⟨(selAt_len g i k).trans ih.len, selAt_valid ih.ok he.pair, ?_, fun j => ?_⟩
    · have := count_set g i (indTo (partG g (opAt g i) k)) he.lt ((isSel_B _ _).1 he.sel) (selB_ind _)
      have := ih.cnt
      unfold selAt
      omega
    · have hp : ∀ (x : Nat) (op : Int), opAt g x = 5 → partG (selAt g i k) op x = partG g op x ∧ opAt (selAt g i k) x = 5 := by
        intro x op hx
        have hxi : x ≠ i := fun e => by have := he.sel; subst e; unfold isSel at *; omega
        unfold partG selAt
        refine ⟨?_, by rw [opAt_D, cellD_ne _ _ _ hxi]; exact hx⟩
        simp only [kidAt_D, cellD_ne _ _ _ hxi]
      by_cases hji : j = i
      · subst hji
        have e0 := ih.same he.sel
        refine Or.inr ⟨by rw [isSel_B, ← e0, ← isSel_B]; exact he.sel, k, ?_, (hp k 0 he.pair).2, ?_⟩
        · rw [selAt_len, kidAt_D, ← e0, ← kidAt_D]
          exact follow_set h11 _ _ _ he.fol hki
        · rw [(hp k _ he.pair).1]
          unfold selAt
          rw [cellD_eq _ _ he.lt]
          congr 2
          rw [opAt_D, opAt_D, e0]
      · have e1 : cellD (selAt g i k) j = cellD g j := cellD_ne _ _ _ hji
        rw [e1]
        rcases ih.cell j with h1 | ⟨h1, m, h2, h3, h4⟩
        · exact Or.inl h1
        · have hmi : m ≠ i := fun e => by have := he.sel; subst e; unfold isSel at *; omega
          exact Or.inr ⟨h1, m, by rw [selAt_len]; exact follow_set h11 _ _ _ h2 hmi, (hp m 0 h3).2, by rw [(hp m _ h3).1]; exact h4⟩
/-- what one has changed, the other has changed to the same -/
theorem sel_agree {g0 a b : List Ce} {defs : Int} {n m : Nat} (hg : graphB g0 defs = true) (ha : SelR g0 a n) (hb : SelR g0 b m) (hm : SelMax b) : ∀ i, cellD a i = cellD g0 i ∨ cellD a i = cellD b i := by
  have hB := selR_inv hg hb
  induction ha with
  | zero => exact fun i => Or.inl rfl
  | @step g n i k h he ih =>
    have hA := selR_inv hg h
    intro j
    by_cases hji : j = i
    · subst hji
      refine Or.inr ?_
      have e0 := hA.same he.sel
      have hs0 : isSel g0 j := by rw [isSel_B, ← e0, ← isSel_B]; exact he.sel
      have eqc : ∀ x, ¬ isSel g x → opAt g x ≠ 11 ∨ opAt g x = 11 → opAt g x = 5 ∨ opAt g x = 11 → cellD b x = cellD g x := by
        intro x hx _ h5
        rcases ih x with h1 | h1
        · rw [h1]
          refine hB.keep fun hs => hx ?_
          rw [isSel_B, h1, ← isSel_B]; exact hs
        · exact h1.symm
      have hfb : followN b b.length (kidAt g0 j 0) = some k := by
        rw [hB.len, ← hA.len]
        refine follow_agree (a := g) (fun x hx => eqc x (by unfold isSel; omega) (Or.inr hx) (Or.inr hx)) _ _ _ ?_ ?_
        · rw [kidAt_D, ← e0, ← kidAt_D]; exact he.fol
        · have hp := he.pair
          rw [opAt_D, eqc k (by unfold isSel; omega) (Or.inl (by omega)) (Or.inl hp), ← opAt_D]; omega
      have hkb : cellD b k = cellD g k := by have hp := he.pair; exact eqc k (by unfold isSel; omega) (Or.inl (by omega)) (Or.inl hp)
      have hpk : opAt b k = 5 := by rw [opAt_D, hkb, ← opAt_D]; exact he.pair
      rcases hB.cell j with h1 | ⟨-, k', h2, h3, h4⟩
      · refine absurd ?_ (hm j k)
        refine ⟨by rw [hB.len, ← hA.len]; exact he.lt, by rw [isSel_B, h1, ← isSel_B]; exact hs0, ?_, hpk⟩
        rw [kidAt_D, h1, ← kidAt_D]; exact hfb
      · rw [hfb] at h2
        simp only [Option.some.injEq] at h2
        subst h2
        rw [h4]
        unfold selAt
        rw [cellD_eq _ _ he.lt]
        congr 1
        unfold partG
        rw [show opAt g0 j = opAt g j by rw [opAt_D, opAt_D, e0]]
        simp only [kidAt_D, hkb]
    · have e1 : cellD (selAt g i k) j = cellD g j := cellD_ne _ _ _ hji
      rw [e1]
      exact ih j
/-- in whichever order -/
theorem sel_unique {g0 a b : List Ce} {defs : Int} {n m : Nat} (hg : graphB g0 defs = true) (ha : SelR g0 a n) (hma : SelMax a) (hb : SelR g0 b m) (hmb : SelMax b) : a = b ∧ n = m := by
  have hA := selR_inv hg ha
  have hB := selR_inv hg hb
  have e : a = b := by
    refine cellD_ext (hA.len.trans hB.len.symm) fun i => ?_
    rcases sel_agree hg ha hb hmb i with h1 | h1
    · rcases sel_agree hg hb ha hma i with h2 | h2
      · rw [h1, h2]
      · exact h2.symm
    · exact h1
  subst e
  have h1 := hA.cnt
  have h2 := hB.cnt
  exact ⟨rfl, by omega⟩

/-! ### The worklist -/
structure WL (g : List Ce) (work : List Nat) (wt : Nat → List Nat) : Prop where
  all : ∀ i, isSel g i → i ∈ work ∨ (∃ f, isSel g f ∧ i ∈ wt f ∧ followN g g.length (kidAt g i 0) = some f) ∨ followN g g.length (kidAt g i 0) = none ∨ ∃ k, followN g g.length (kidAt g i 0) = some k ∧ opAt g k ≠ 5 ∧ ¬ isSel g k
  nd : work.Nodup
  wk : ∀ i ∈ work, isSel g i
  wnd : ∀ f, isSel g f → (wt f).Nodup
  wsel : ∀ f, isSel g f → ∀ i ∈ wt f, isSel g i ∧ i ∉ work
  dis : ∀ f f' i, isSel g f → isSel g f' → i ∈ wt f → i ∈ wt f' → f = f'
theorem WL.fin {g : List Ce} {wt : Nat → List Nat} (h : WL g [] wt) : SelMax g := by
  intro i k he
  have hf := he.fol
  have hp := he.pair
  rcases h.all i he.sel with h1 | ⟨f, h1, -, h3⟩ | h1 | ⟨k', h1, h2, -⟩
  · simp at h1
  · rw [hf] at h3; simp only [Option.some.injEq] at h3; subst h3; unfold isSel at h1; omega
  · rw [hf] at h1; cases h1
  · rw [hf] at h1; simp only [Option.some.injEq] at h1; subst h1; exact h2 hp
theorem WL.pop_mem {g : List Ce} {rest : List Nat} {i : Nat} {wt : Nat → List Nat} (h : WL g (rest ++ [i]) wt) : isSel g i ∧ i ∉ rest ∧ rest.Nodup := by
  have hn := h.nd
  rw [List.nodup_append] at hn
  exact ⟨h.wk i (by simp), fun hm => hn.2.2 i hm i (by simp) rfl, hn.1⟩
/-- a cell that no change can help any more -/
theorem WL.dead {g : List Ce} {rest : List Nat} {i : Nat} {wt : Nat → List Nat} (h : WL g (rest ++ [i]) wt) (hd : followN g g.length (kidAt g i 0) = none ∨ ∃ k, followN g g.length (kidAt g i 0) = some k ∧ opAt g k ≠ 5 ∧ ¬ isSel g k) : WL g rest wt := by
  obtain ⟨p1, p2, p3⟩ := h.pop_mem
  refine ⟨fun j hj => ?_, p3, fun j hj => h.wk j (by simp [hj]), h.wnd, fun f hf j hj => ⟨(h.wsel f hf j hj).1, fun hm => (h.wsel f hf j hj).2 (by simp [hm])⟩, h.dis⟩
  rcases h.all j hj with h1 | h1
  · rcases List.mem_append.1 h1 with h1 | h1
    · exact Or.inl h1
    · simp only [List.mem_singleton] at h1
      subst h1
      exact Or.inr (Or.inr hd)
  · exact Or.inr h1
/-- a cell that waits for another one -/
theorem WL.wait {g : List Ce} {rest : List Nat} {i k : Nat} {wt : Nat → List Nat} (h : WL g (rest ++ [i]) wt) (hf : followN g g.length (kidAt g i 0) = some k) (hk : isSel g k) : WL g rest (fun x => if x = k then wt k ++ [i] else wt x) := by
  obtain ⟨p1, p2, p3⟩ := h.pop_mem
  have hno : ∀ f, isSel g f → i ∉ wt f := fun f hf hm => (h.wsel f hf i hm).2 (by simp)
  have mem : ∀ x j, j ∈ (if x = k then wt k ++ [i] else wt x) → j ∈ wt x ∨ (x = k ∧ j = i) := by
    intro x j hj
    split at hj
    · rename_i e
      subst e
      rcases List.mem_append.1 hj with h1 | h1
      · exact Or.inl h1
      · simp only [List.mem_singleton] at h1; exact Or.inr ⟨rfl, h1⟩
    · exact Or.inl hj
  refine ⟨fun j hj => ?_, p3, fun j hj => h.wk j (by simp [hj]), fun f hf => ?_, fun f hf j hj => ?_, fun f f' j s1 s2 h1 h2 => ?_⟩
  · rcases h.all j hj with h1 | ⟨f, h1, h2, h3⟩ | h1
    · rcases List.mem_append.1 h1 with h1 | h1
      · exact Or.inl h1
      · simp only [List.mem_singleton] at h1
        subst h1
        exact Or.inr (Or.inl ⟨k, hk, by simp, hf⟩)
    · refine Or.inr (Or.inl ⟨f, h1, ?_, h3⟩)
      split
      · rename_i e; subst e; exact List.mem_append_left _ h2
      · exact h2
    · exact Or.inr (Or.inr h1)
  · show (if f = k then wt k ++ [i] else wt f).Nodup
    split
    · rw [List.nodup_append]
      exact ⟨h.wnd k hk, by simp, by intro a ha b hb; simp only [List.mem_singleton] at hb; subst hb; intro e; exact hno k hk (e ▸ ha)⟩
    · exact h.wnd f hf
  · rcases mem f j hj with h1 | ⟨rfl, rfl⟩
    · exact ⟨(h.wsel f hf j h1).1, fun hm => (h.wsel f hf j h1).2 (by simp [hm])⟩
    · exact ⟨p1, p2⟩
  · rcases mem f j h1 with a1 | ⟨rfl, rfl⟩
    · rcases mem f' j h2 with a2 | ⟨rfl, rfl⟩
      · exact h.dis f f' j s1 s2 a1 a2
      · exact absurd a1 (hno f s1)
    · rcases mem f' j h2 with a2 | ⟨rfl, -⟩
      · exact absurd a2 (hno f' s2)
      · rfl
/-- a selection is made: those that waited for it come back -/
theorem WL.make {g : List Ce} {rest : List Nat} {i k : Nat} {wt : Nat → List Nat} (h : WL g (rest ++ [i]) wt) (he : Enabled g i k) : WL (selAt g i k) (rest ++ wt i) wt := by
  obtain ⟨p1, p2, p3⟩ := h.pop_mem
  have h11 := isSel_ne11 p1
  have hci : ∀ j, j ≠ i → cellD (selAt g i k) j = cellD g j := fun j hj => cellD_ne _ _ _ hj
  have hii : ¬ isSel (selAt g i k) i := by rw [isSel_B]; unfold selAt; rw [cellD_eq _ _ he.lt]; simp [selB_ind]
  have hs : ∀ j, isSel (selAt g i k) j ↔ isSel g j ∧ j ≠ i := by
    intro j
    by_cases e : j = i
    · subst e; exact ⟨fun h => absurd h hii, fun h => absurd rfl h.2⟩
    · rw [isSel_B, hci j e, ← isSel_B]; exact ⟨fun h => ⟨h, e⟩, fun h => h.1⟩
  have hwi := h.wsel i p1
  have hno : i ∉ wt i := fun hm => (hwi i hm).2 (by simp)
  refine ⟨fun j hj => ?_, ?_, fun j hj => ?_, fun f hf => h.wnd f ((hs f).1 hf).1, fun f hf j hj => ?_, fun f f' j hf hf' => h.dis f f' j ((hs f).1 hf).1 ((hs f').1 hf').1⟩
  · obtain ⟨hj1, hj2⟩ := (hs j).1 hj
    have ek : kidAt (selAt g i k) j 0 = kidAt g j 0 := by rw [kidAt_D, hci j hj2, ← kidAt_D]
    rw [selAt_len, ek]
    rcases h.all j hj1 with h1 | ⟨f, h1, h2, h3⟩ | h1 | ⟨x, h1, h2, h3⟩
    · rcases List.mem_append.1 h1 with h1 | h1
      · exact Or.inl (List.mem_append_left _ h1)
      · simp only [List.mem_singleton] at h1; exact absurd h1 hj2
    · by_cases e : f = i
      · subst e; exact Or.inl (List.mem_append_right _ h2)
      · exact Or.inr (Or.inl ⟨f, (hs f).2 ⟨h1, e⟩, h2, follow_set h11 _ _ _ h3 e⟩)
    · exact Or.inr (Or.inr (Or.inl (follow_setn h11 _ _ h1)))
    · have hx : x ≠ i := fun e => h3 (e ▸ p1)
      exact Or.inr (Or.inr (Or.inr ⟨x, follow_set h11 _ _ _ h1 hx, by rw [opAt_D, hci x hx, ← opAt_D]; exact h2, fun h4 => h3 ((hs x).1 h4).1⟩))
  · rw [List.nodup_append]
    exact ⟨p3, h.wnd i p1, by intro a ha b hb e; subst e; exact (hwi a hb).2 (by simp [ha])⟩
  · rcases List.mem_append.1 hj with h1 | h1
    · exact (hs j).2 ⟨h.wk j (by simp [h1]), fun e => p2 (e ▸ h1)⟩
    · exact (hs j).2 ⟨(hwi j h1).1, fun e => hno (e ▸ h1)⟩
  · obtain ⟨f1, f2⟩ := (hs f).1 hf
    obtain ⟨a1, a2⟩ := h.wsel f f1 j hj
    refine ⟨(hs j).2 ⟨a1, fun e => ?_⟩, fun hm => ?_⟩
    · subst e; exact a2 (by simp)
    · rcases List.mem_append.1 hm with h1 | h1
      · exact a2 (by simp [h1])
      · exact f2 (h.dis f i j f1 p1 hj h1)
theorem WL.start {g : List Ce} {work : List Nat} (hn : work.Nodup) (h : ∀ i, i ∈ work ↔ isSel g i) : WL g work (fun _ => []) :=
  ⟨fun i hi => Or.inl ((h i).2 hi), hn, fun i hi => (h i).1 hi, fun _ _ => by simp, fun _ _ i hi => by simp at hi, fun _ _ i _ _ hi => by simp at hi⟩
theorem WL.len {g : List Ce} {work : List Nat} {wt : Nat → List Nat} (h : WL g work wt) : work.length ≤ g.length := nodup_len h.nd fun i hi => isSel_lt (h.wk i hi)
end Go.Proofs.Ytjpjikfmdaejeaa
/-
  PLAIN: what SelectGraph and TidyGraph answer. No program is named here.
-/
namespace Go.Proofs.Ytjpjikfmdaejeaa
set_option linter.unusedVariables false
set_option linter.unusedSimpArgs false

open Classical in
/-- the graph in the end, and how many selections were made -/
noncomputable def selRes (g : List Ce) : List Ce × Nat := if h : ∃ p : List Ce × Nat, SelR g p.1 p.2 ∧ SelMax p.1 then h.choose else (g, 0)
theorem selRes_eq {g G : List Ce} {defs : Int} {n : Nat} (hg : graphB g defs = true) (h : SelR g G n) (hm : SelMax G) : selRes g = (G, n) := by
  have hx : ∃ p : List Ce × Nat, SelR g p.1 p.2 ∧ SelMax p.1 := ⟨(G, n), h, hm⟩
  unfold selRes
  rw [dif_pos hx]
  obtain ⟨h1, h2⟩ := hx.choose_spec
  obtain ⟨e1, e2⟩ := sel_unique hg h1 h2 h hm
  exact Prod.ext e1 e2
theorem sel_ends {g : List Ce} {defs : Int} (hg : graphB g defs = true) : ∃ G n, SelR g G n ∧ SelMax G := by
  have key : ∀ c G n, SelR g G n → G.countP selB = c → ∃ G n, SelR g G n ∧ SelMax G := by
    intro c
    induction c using Nat.strongRecOn with
    | ind c ih =>
      intro G n h hc
      by_cases hm : SelMax G
      · exact ⟨G, n, h, hm⟩
      · unfold SelMax at hm
        have hm : ∃ i k, Enabled G i k := by
          refine Classical.byContradiction fun hn => hm fun i k he => hn ⟨i, k, he⟩
        obtain ⟨i, k, he⟩ := hm
        have h1 := (selR_inv hg h).cnt
        have h2 := (selR_inv hg (h.step he)).cnt
        exact ih _ (by omega) _ _ (h.step he) rfl
  exact key _ g 0 .zero rfl
theorem selRes_rel {g : List Ce} {defs : Int} (hg : graphB g defs = true) : SelR g (selRes g).1 (selRes g).2 := by
  obtain ⟨G, n, h, hm⟩ := sel_ends hg
  rw [selRes_eq hg h hm]; exact h
theorem selRes_ok {g : List Ce} {defs : Int} (hg : graphB g defs = true) : graphB (selRes g).1 defs = true ∧ (selRes g).1.length = g.length ∧ (selRes g).2 ≤ g.length := by
  have h := selR_inv hg (selRes_rel hg)
  refine ⟨h.ok, h.len, ?_⟩
  have := h.cnt
  have : g.countP selB ≤ g.length := List.countP_le_length
  omega
/-- what SelectGraph answers, but for whether -/
noncomputable def selO (g : List Ce) : List Ce × Nat := if graphB g 6 = true then selRes g else ([], 0)
theorem selO_no {g : List Ce} (h : graphB g 6 = false) : selO g = ([], 0) := by unfold selO; rw [if_neg (by rw [h]; simp)]
theorem selO_yes {g : List Ce} (h : graphB g 6 = true) : selO g = selRes g := by unfold selO; rw [if_pos h]
theorem selO_small (g : List Ce) : (selO g).1.length + sumK (selO g).1 ≤ 2000 ∧ (selO g).2 ≤ 400 := by
  cases h : graphB g 6 with
  | false => rw [selO_no h]; simp [sumK]
  | true =>
    rw [selO_yes h]
    obtain ⟨h1, h2, h3⟩ := selRes_ok h
    have h4 := graphB_len h
    have h5 := kidsSum_le3 (selRes g).1 fun c hc => by
      obtain ⟨i, hi, rfl⟩ := List.getElem_of_mem hc
      exact (kids_graph h1 i hi).1
    omega
theorem rootB_sel {g : List Ce} (h : graphB g 6 = true) (rs : List Int) : rootB (selRes g).1 rs = rootB g rs := by
  obtain ⟨h1, h2, -⟩ := selRes_ok h
  unfold rootB; rw [h1, h2, h]
/-- what TidyGraph answers, but for whether -/
noncomputable def tidyO (g : List Ce) (rs : List Int) : List Ce × List Nat := if rootB g rs = true then collO (selRes g).1 rs else ([], [])
theorem tidyO_no {g : List Ce} {rs : List Int} (h : rootB g rs = false) : tidyO g rs = ([], []) := by unfold tidyO; rw [if_neg (by rw [h]; simp)]
theorem tidyO_yes {g : List Ce} {rs : List Int} (h : rootB g rs = true) : tidyO g rs = collO (selRes g).1 rs := by unfold tidyO; rw [if_pos h]
theorem tidyO_graph {g : List Ce} {rs : List Int} (h : graphB g 6 = true) : tidyO g rs = collO (selRes g).1 rs := by
  cases hr : rootB g rs with
  | true => exact tidyO_yes hr
  | false => rw [tidyO_no hr, collO_no (by rw [rootB_sel h, hr])]
theorem tidyO_small (g : List Ce) (rs : List Int) : (tidyO g rs).1.length + sumK (tidyO g rs).1 ≤ 2000 ∧ (tidyO g rs).2.length ≤ 2000 := by
  cases h : rootB g rs with
  | false => rw [tidyO_no h]; simp [sumK]
  | true => rw [tidyO_yes h]; exact collO_small _ _
end Go.Proofs.Ytjpjikfmdaejeaa
/-
  A CELL OF A GRAPH OF ONE's OWN BECOMES AN INDIRECTION, in memory.
-/
namespace Go.Proofs.Ytjpjikfmdaejeaa
set_option linter.unusedVariables false
set_option linter.unusedSimpArgs false
open Go.RowKit

theorem ind_i64W (k : Nat) : I64 (indTo k).op ∧ I64 (indTo k).num := by unfold I64 indTo; simp
theorem OwnC.blkW {w : World} {lo : Nat} {S : Nat → Prop} {g : List Ce} {ad : Option Addr} {n cap : Nat} (h : OwnC w lo S g (.slice ad n cap)) (h0 : 0 < g.length) : ∃ b, ad = some ⟨b, 0, none⟩ ∧ n = g.length ∧ lo ≤ b ∧ b < w.heap.size := by
  obtain ⟨ys, hys⟩ := h.row
  rcases hys.2 with ⟨-, hz⟩ | ⟨b5, c5, cur5, e5, hlo, hh, -⟩
  · omega
  · simp only [Value.slice.injEq] at e5
    exact ⟨b5, e5.1, e5.2.1, hlo, (Array.getElem?_eq_some_iff.1 hh).1⟩
/-- a row of one operand is laid, the cell stands for it -/
theorem OwnC.setInd {w : World} {lo b cap n : Nat} {g : List Ce} (h : OwnC w lo (fun b => lo ≤ b) g (.slice (some ⟨b, 0, none⟩) n cap)) (hn : n = g.length) (hlo : lo ≤ w.heap.size) (i k : Nat) (hi : i < g.length) :
    OwnC (st3 (w.alloc (.cells #[.int .i64 (k : Int)] 3)) b i 11 0 (.slice (some ⟨w.heap.size, 0, none⟩) 1 1)) lo (fun b => lo ≤ b) (g.set i (indTo k)) (.slice (some ⟨b, 0, none⟩) n cap) := by
  subst hn
  have hoa : OwnC (w.alloc (.cells #[.int .i64 (k : Int)] 3)) lo (fun b => lo ≤ b ∧ b < w.heap.size) g (.slice (some ⟨b, 0, none⟩) g.length cap) :=
    h.next (fun k hk hz => ⟨hk, hz⟩) (fun k _ hz => Deep.blk_alloc_lt _ _ _ hz) (fun k _ hz => Deep.blk_alloc_lt _ _ _ hz)
  have hset := hoa.setc i hi (c := indTo k) (ind_i64W k) (krow_one w k) (by rintro ⟨-, h⟩; omega)
  exact hset.next (fun k hk _ => by rcases hk with h | h; exact h.1; omega) (fun _ _ _ => rfl) (fun _ _ _ => rfl)
theorem own_cellW {w : World} {base n cap b : Nat} {xs : List Value} (h : w.ownsRow base 45 3 (.slice (some ⟨b, 0, none⟩) n cap) n xs) (j : Nat) (hj : j < n * 3) : ∃ z, w.cell? ⟨b, j, none⟩ = some z :=
  ⟨_, (h.cellAt j hj).trans (List.getElem?_eq_getElem (by have := h.1; omega))⟩
/-- a cell that is not enabled -/
theorem not_en_op {g : List Ce} {i : Nat} (h : ¬ isSel g i) (k : Nat) : ¬ Enabled g i k := fun e => h e.sel
theorem not_en_none {g : List Ce} {i : Nat} (h : followN g g.length (kidAt g i 0) = none) (k : Nat) : ¬ Enabled g i k := fun e => by rw [e.fol] at h; cases h
theorem not_en_pair {g : List Ce} {i q : Nat} (h : followN g g.length (kidAt g i 0) = some q) (h5 : opAt g q ≠ 5) (k : Nat) : ¬ Enabled g i k := fun e => by
  rw [e.fol] at h
  simp only [Option.some.injEq] at h
  subst h
  exact h5 e.pair
theorem pair_kids {g : List Ce} {defs : Int} (hg : graphB g defs = true) {k : Nat} (hk : k < g.length) (h : g[k].op = 5) : g[k].kids.length = 2 := by
  have h1 := kids_count hg k hk
  rw [h] at h1
  have e : cArity 5 = 2 := by decide
  omega
theorem sel_kids {g : List Ce} {defs : Int} (hg : graphB g defs = true) {k : Nat} (hk : k < g.length) (h : g[k].op = 6 ∨ g[k].op = 7) : g[k].kids.length = 1 := by
  have h1 := kids_count hg k hk
  rcases h with h | h <;> rw [h] at h1 <;> have e : cArity 6 = 1 ∧ cArity 7 = 1 := by decide
  all_goals omega
end Go.Proofs.Ytjpjikfmdaejeaa
/-
  THE MODEL's l5Select AND SelectGraph.
-/
namespace Go.Proofs.Ytjpjikfmdaejeaa
set_option linter.unusedVariables false
set_option linter.unusedSimpArgs false
open Go.RowKit

/-- a graph in new rows, and a number -/
def NewGN (r : List Ce × Nat) (w : World) (e : Ending) (w' : World) : Prop :=
  ∃ gv, e = .returned (.tuple #[gv, .int .i64 (r.2 : Int)]) ∧ OwnC w' w.heap.size (fun b => w.heap.size ≤ b) r.1 gv ∧ Below w.heap.size w w'
/-- what holds at a cell of a round -/
structure SlRel (g : List Ce) (lo : Nat) (v : Value) (w : World) (m0 k m : Nat) (c : Bool) (G : List Ce) (wr : World) : Prop where
  rel : SelR g G m
  own : OwnC wr lo (fun b => lo ≤ b) G v
  bel : Below lo w wr
  le : m0 ≤ m
  yes : c = true → m0 < m
  no : c = false → m = m0 ∧ ∀ j < k, ∀ q, ¬ Enabled G j q
theorem SlRel.skip {g G : List Ce} {lo m0 k m : Nat} {v : Value} {w wr wr' : World} {c : Bool} (h : SlRel g lo v w m0 k m c G wr) (hb : Below wr.heap.size wr wr') (hl : lo ≤ wr.heap.size) (hn : ∀ q, ¬ Enabled G k q) : SlRel g lo v w m0 (k + 1) m c G wr' :=
  ⟨h.rel, h.own.next (fun _ h _ => h) (fun k _ hz => hb.block k hz) (fun k _ hz => hb.block k hz), h.bel.trans (hb.mono hl), h.le, h.yes, fun e => ⟨(h.no e).1, fun j hj => by
    rcases Nat.lt_or_ge j k with h1 | h1
    · exact (h.no e).2 j h1
    · obtain rfl : j = k := by omega
      exact hn⟩⟩

/-- the graph behind a round that has made no selection -/
theorem sl_max {g G : List Ce} {lo m0 k m : Nat} {v : Value} {w wr : World} (h : SlRel g lo v w m0 k m false G wr) (hk : G.length ≤ k) : SelMax G := by
  intro i q he
  exact (h.no rfl).2 i (Nat.lt_of_lt_of_le he.lt hk) q he
theorem SlRel.make {g G : List Ce} {lo m0 k m b n cap q : Nat} {w wr w1 : World} {c : Bool} (h : SlRel g lo (.slice (some ⟨b, 0, none⟩) n cap) w m0 k m c G wr) (hn : n = G.length) (hb : Below wr.heap.size wr w1) (hl : lo ≤ wr.heap.size) (he : Enabled G k q) (hlo : lo ≤ b) :
    SlRel g lo (.slice (some ⟨b, 0, none⟩) n cap) w m0 (k + 1) (m + 1) true (selAt G k q) (st3 (w1.alloc (.cells #[.int .i64 (partG G (opAt G k) q : Int)] 3)) b k 11 0 (.slice (some ⟨w1.heap.size, 0, none⟩) 1 1)) := by
  have hs1 := hb.size
  have ho1 : OwnC w1 lo (fun b => lo ≤ b) G (.slice (some ⟨b, 0, none⟩) n cap) := h.own.next (fun _ h _ => h) (fun k _ hz => hb.block k hz) (fun k _ hz => hb.block k hz)
  refine ⟨h.rel.step he, ho1.setInd hn (by omega) k _ he.lt, st3_below ((h.bel.trans (hb.mono hl)).alloc (by omega) _) hlo, by have := h.le; omega, fun _ => by have := h.le; omega, fun e => Bool.noConfusion e⟩

set_option maxRecDepth 100000 in
set_option maxHeartbeats 12800000 in
theorem l5Select_calls (g : List Ce) (v : Value) (w : World) (hk : CIn w g v) (hg : graphB g 6 = true) :
    Calls Try.prog 38 #[v] w (NewGN (selRes g) w) := by
  have HK : Hid (CIn w g v) := hk
  have HG := mkHid hg
  have h400 : g.length ≤ 400 := graphB_len hg
  clear hk hg
  go_enter Try.func38, Try.ntmps38
  go_wp2_with fail
  refine (l3Copy_calls g _ _ HK.out ⟨6, HG.out⟩).mono ?_
  rintro e w1 ⟨gv, rfl, ho, hb1⟩
  obtain ⟨adg, capg, rfl⟩ := ho.form
  have HZ1 := mkHid hb1.size
  have HST : Hid (SelR g g 0 ∧ OwnC w1 w.heap.size (fun b => w.heap.size ≤ b) g (.slice adg g.length capg) ∧ Below w.heap.size w w1) := ⟨.zero, ho, hb1⟩
  clear ho hb1
  go_wp2_with fail
  go_loopw [5, 6] (fun z c wr => ∃ (m : Nat) (b : Bool) (G : List Ce), z = .int .i64 m ∧ c = .bool b ∧ m ≤ g.length ∧ SelR g G m ∧ OwnC wr w.heap.size (fun b => w.heap.size ≤ b) G (.slice adg g.length capg) ∧ Below w.heap.size w wr ∧ (b = false → SelMax G)) (fun z c _ => 2 * (g.length - (intOf z).toNat) + (match c with | .bool true => 1 | _ => 0))
  case atStart => exact ⟨0, true, g, rfl, rfl, Nat.zero_le _, HST.out.1, HST.out.2.1, HST.out.2.2, fun e => Bool.noConfusion e⟩
  case round =>
    obtain ⟨m0, b, G0, rfl, rfl, hm0, hrel, hown, hbel, hmax⟩ := hrel
    cases b with
    | false =>
      have HV := mkHid (selRes_eq HG.out hrel (hmax rfl))
      have HO := mkHid hown
      have HB : Hid (Below w.heap.size w wr) := hbel
      clear hrel hown hbel hmax
      go_wp2_with fail
      go_ret2
      rw [HV.out]
      exact ⟨_, rfl, HO.out, HB.out⟩
    | true =>
      have HL0 : Hid (G0.length = g.length) := (selR_inv HG.out hrel).len
      have HS0 : Hid (SlRel g w.heap.size (.slice adg g.length capg) w m0 0 m0 false G0 wr) := ⟨hrel, hown, hbel, Nat.le_refl _, fun h => Bool.noConfusion h, fun _ => ⟨rfl, fun j hj => absurd hj (by omega)⟩⟩
      clear hrel hown hbel hmax
      go_wp2_with fail
      go_loopw [5, 6, 7] (fun z c i wr => ∃ (k m : Nat) (b : Bool) (G : List Ce), i = .int .i64 k ∧ k ≤ g.length ∧ z = .int .i64 m ∧ c = .bool b ∧ SlRel g w.heap.size (.slice adg g.length capg) w m0 k m b G wr) (fun _ _ i _ => g.length - (intOf i).toNat)
      case atStart => exact ⟨0, m0, false, G0, rfl, Nat.zero_le _, rfl, rfl, HS0.out⟩
      case round =>
        obtain ⟨k, m, b, G, rfl, hk, rfl, rfl, hr⟩ := hrel
        have HR := mkHid hr
        have hinv := selR_inv HG.out hr.rel
        have HOK := mkHid hinv.ok
        have hGL := hinv.len
        have hml : m ≤ g.length := by have := hinv.cnt; have : g.countP selB ≤ g.length := List.countP_le_length; omega
        have HLW : Hid (w.heap.size ≤ wr.heap.size) := hr.bel.size
        clear hr hinv
        by_cases hlt : k < g.length
        · have hltG : k < G.length := by omega
          obtain ⟨b5, rfl, -, hlb, hbz⟩ := HR.out.own.blkW (by omega)
          have HLB := mkHid hlb
          have hC := (HR.out.own.own fun k h _ => h).inn
          have HC := mkHid hC
          obtain ⟨bl, off, r, e, c0, c1, c2, -, -, hkk⟩ := hC.at k hltG
          cases e
          simp only [Nat.zero_add] at c0 c1 c2
          have HGL := mkHid hGL
          by_cases hsel : G[k].op = 6 ∨ G[k].op = 7
          · have hk1 := sel_kids HOK.out hltG hsel
            obtain ⟨hke, hkl⟩ := kidAt_get HOK.out k hltG 0 (by omega)
            obtain ⟨adk, capk, rfl, hkc, hkm, -⟩ := id hkk
            obtain ⟨bk, ok, rfl, d0⟩ := hkk.at 0 (by omega)
            rw [hke, Nat.add_zero] at d0
            have hk0I : (0 : Int) < (G[k].kids.length : Int) := by omega
            obtain ⟨x, hx⟩ : ∃ x, x = kidAt G k 0 := ⟨_, rfl⟩
            have HX := mkHid hx
            rw [← hx] at d0 hkl
            clear hC hlb hbz hx hke hk1 hGL
            rcases hsel with hop | hop
            · have t1 : (G[k].op != 6) = false := by rw [hop]; rfl
              have HOP := mkHid hop
              have HKC := mkHid c0
              clear hop hkk hkc hkm
              go_wp2_with fail
              refine (l3Follow_calls G x _ _ HC.out ⟨6, HOK.out⟩ hkl).mono ?_
              rintro e w2 ⟨rfl, hb2⟩
              have HB2 := mkHid hb2
              rw [follow_enough HOK.out x hkl]
              cases hf : followN G G.length x with
              | none =>
                have HN : Hid (∀ q, ¬ Enabled G k q) := not_en_none (by rw [← HX.out]; exact hf)
                have e1 : folI none = -1 := rfl
                rw [e1]
                clear hf e1 hb2
                go_wp2_with fail
                go_roundw
                case rel => exact ⟨k + 1, m, b, G, by go_num, by omega, rfl, rfl, HR.out.skip HB2.out HLW.out HN.out⟩
                case measure => simp [intOf]; omega
              | some q =>
                have HF : Hid (followN G G.length (kidAt G k 0) = some q) := by rw [← HX.out]; exact hf
                have hql := (followN_lt HOK.out _ _ _ hkl hf).1
                have e1 : folI (some q) = (q : Int) := rfl
                rw [e1]
                have hqn : ¬ ((q : Int) < 0) := by omega
                have hqI : (q : Int) < (g.length : Int) := by have := HGL.out; omega
                obtain ⟨bl, off, r3, e, q0, q1, q2, -, -, hkq⟩ := (HC.out.next hb2).at q hql
                cases e
                simp only [Nat.zero_add] at q0 q1 q2
                have k0 := (hb2.cell (p := ⟨b5, k * 3, none⟩) (cell_lt HKC.out)).trans HKC.out
                by_cases h5 : G[q].op = 5
                · have t5 : (G[q].op != 5) = false := by rw [h5]; rfl
                  have h2q := pair_kids HOK.out hql h5
                  obtain ⟨adq, capq, rfl, -, -, -⟩ := id hkq
                  obtain ⟨bkq, okq, rfl, p0⟩ := hkq.at 0 (by omega)
                  obtain ⟨hke0, -⟩ := kidAt_get HOK.out q hql 0 (by omega)
                  rw [hke0, Nat.add_zero] at p0
                  have t7 : (G[k].op == 7) = false := by rw [HOP.out]; rfl
                  have hq0I : (0 : Int) < (G[q].kids.length : Int) := by omega
                  have hq1I : (1 : Int) < (G[q].kids.length : Int) := by omega
                  have HPT : Hid (partG G (opAt G k) q = kidAt G q 0) := by unfold Hid partG; rw [opAt_at k hltG, HOP.out]; rfl
                  obtain ⟨pp, hpp⟩ : ∃ pp, pp = kidAt G q 0 := ⟨_, rfl⟩
                  rw [← hpp] at p0 HPT
                  have HEN : Hid (Enabled G k q) := ⟨hltG, by unfold isSel; rw [opAt_at k hltG, HOP.out]; omega, HF.out, by rw [opAt_at q hql]; exact h5⟩
                  have HMK := mkHid (HR.out.make HGL.out.symm HB2.out HLW.out HEN.out HLB.out)
                  rw [HPT.out] at HMK
                  obtain ⟨ys, hys⟩ := (HR.out.own.next (S' := fun b => w.heap.size ≤ b) (fun _ h _ => h) (fun k _ hz => hb2.block k hz) (fun k _ hz => hb2.block k hz)).row
                  rw [HGL.out] at hys
                  have hys2 := World.ownsRow.alloc hys (.cells #[.int .i64 (pp : Int)] 3)
                  obtain ⟨z0, y0⟩ := own_cellW hys2 (k * 3) (by omega)
                  obtain ⟨z1, y1⟩ := own_cellW hys2 (k * 3 + 1) (by omega)
                  obtain ⟨z2, y2⟩ := own_cellW hys2 (k * 3 + 2) (by omega)
                  have f0 := hys2.frozenAt (k * 3)
                  have f1 := hys2.frozenAt (k * 3 + 1)
                  have f2 := hys2.frozenAt (k * 3 + 2)
                  clear hf e1 hb2 hkq h5 h2q hpp hys hys2 hke0
                  go_wp2_with fail
                  go_roundw
                  case rel => exact ⟨k + 1, m + 1, true, selAt G k q, by go_num, by omega, by go_num, rfl, HMK.out⟩
                  case measure => simp [intOf]; omega
                · have t5 : (G[q].op != 5) = true := by simpa using h5
                  have HN : Hid (∀ q, ¬ Enabled G k q) := not_en_pair HF.out (by rw [opAt_at q hql]; exact h5)
                  clear hf e1 hb2 hkq h5
                  go_wp2_with fail
                  go_roundw
                  case rel => exact ⟨k + 1, m, b, G, by go_num, by omega, rfl, rfl, HR.out.skip HB2.out HLW.out HN.out⟩
                  case measure => simp [intOf]; omega
            · have t1 : (G[k].op != 6) = true := by rw [hop]; rfl
              have t2 : (G[k].op != 7) = false := by rw [hop]; rfl
              have HOP := mkHid hop
              have HKC := mkHid c0
              clear hop hkk hkc hkm
              go_wp2_with fail
              refine (l3Follow_calls G x _ _ HC.out ⟨6, HOK.out⟩ hkl).mono ?_
              rintro e w2 ⟨rfl, hb2⟩
              have HB2 := mkHid hb2
              rw [follow_enough HOK.out x hkl]
              cases hf : followN G G.length x with
              | none =>
                have HN : Hid (∀ q, ¬ Enabled G k q) := not_en_none (by rw [← HX.out]; exact hf)
                have e1 : folI none = -1 := rfl
                rw [e1]
                clear hf e1 hb2
                go_wp2_with fail
                go_roundw
                case rel => exact ⟨k + 1, m, b, G, by go_num, by omega, rfl, rfl, HR.out.skip HB2.out HLW.out HN.out⟩
                case measure => simp [intOf]; omega
              | some q =>
                have HF : Hid (followN G G.length (kidAt G k 0) = some q) := by rw [← HX.out]; exact hf
                have hql := (followN_lt HOK.out _ _ _ hkl hf).1
                have e1 : folI (some q) = (q : Int) := rfl
                rw [e1]
                have hqn : ¬ ((q : Int) < 0) := by omega
                have hqI : (q : Int) < (g.length : Int) := by have := HGL.out; omega
                obtain ⟨bl, off, r3, e, q0, q1, q2, -, -, hkq⟩ := (HC.out.next hb2).at q hql
                cases e
                simp only [Nat.zero_add] at q0 q1 q2
                have k0 := (hb2.cell (p := ⟨b5, k * 3, none⟩) (cell_lt HKC.out)).trans HKC.out
                by_cases h5 : G[q].op = 5
                · have t5 : (G[q].op != 5) = false := by rw [h5]; rfl
                  have h2q := pair_kids HOK.out hql h5
                  obtain ⟨adq, capq, rfl, -, -, -⟩ := id hkq
                  obtain ⟨bkq, okq, rfl, p0⟩ := hkq.at 0 (by omega)
                  obtain ⟨hke0, -⟩ := kidAt_get HOK.out q hql 0 (by omega)
                  rw [hke0, Nat.add_zero] at p0
                  obtain ⟨bk1, ok1, e9, p1⟩ := hkq.at 1 (by omega)
                  cases e9
                  obtain ⟨hke1, -⟩ := kidAt_get HOK.out q hql 1 (by omega)
                  rw [hke1] at p1
                  have t7 : (G[k].op == 7) = true := by rw [HOP.out]; rfl
                  have hq0I : (0 : Int) < (G[q].kids.length : Int) := by omega
                  have hq1I : (1 : Int) < (G[q].kids.length : Int) := by omega
                  have HPT : Hid (partG G (opAt G k) q = kidAt G q 1) := by unfold Hid partG; rw [opAt_at k hltG, HOP.out]; rfl
                  obtain ⟨pp, hpp⟩ : ∃ pp, pp = kidAt G q 1 := ⟨_, rfl⟩
                  rw [← hpp] at p1 HPT
                  have HEN : Hid (Enabled G k q) := ⟨hltG, by unfold isSel; rw [opAt_at k hltG, HOP.out]; omega, HF.out, by rw [opAt_at q hql]; exact h5⟩
                  have HMK := mkHid (HR.out.make HGL.out.symm HB2.out HLW.out HEN.out HLB.out)
                  rw [HPT.out] at HMK
                  obtain ⟨ys, hys⟩ := (HR.out.own.next (S' := fun b => w.heap.size ≤ b) (fun _ h _ => h) (fun k _ hz => hb2.block k hz) (fun k _ hz => hb2.block k hz)).row
                  rw [HGL.out] at hys
                  have hys2 := World.ownsRow.alloc hys (.cells #[.int .i64 (pp : Int)] 3)
                  obtain ⟨z0, y0⟩ := own_cellW hys2 (k * 3) (by omega)
                  obtain ⟨z1, y1⟩ := own_cellW hys2 (k * 3 + 1) (by omega)
                  obtain ⟨z2, y2⟩ := own_cellW hys2 (k * 3 + 2) (by omega)
                  have f0 := hys2.frozenAt (k * 3)
                  have f1 := hys2.frozenAt (k * 3 + 1)
                  have f2 := hys2.frozenAt (k * 3 + 2)
                  clear hf e1 hb2 hkq h5 h2q hpp hys hys2 hke0 hke1
                  go_wp2_with fail
                  go_roundw
                  case rel => exact ⟨k + 1, m + 1, true, selAt G k q, by go_num, by omega, by go_num, rfl, HMK.out⟩
                  case measure => simp [intOf]; omega
                · have t5 : (G[q].op != 5) = true := by simpa using h5
                  have HN : Hid (∀ q, ¬ Enabled G k q) := not_en_pair HF.out (by rw [opAt_at q hql]; exact h5)
                  clear hf e1 hb2 hkq h5
                  go_wp2_with fail
                  go_roundw
                  case rel => exact ⟨k + 1, m, b, G, by go_num, by omega, rfl, rfl, HR.out.skip HB2.out HLW.out HN.out⟩
                  case measure => simp [intOf]; omega
          · have t1 : (G[k].op != 6) = true := by simpa using (not_or.1 hsel).1
            have t2 : (G[k].op != 7) = true := by simpa using (not_or.1 hsel).2
            have HN : Hid (∀ q, ¬ Enabled G k q) := not_en_op (by unfold isSel; rw [opAt_at k hltG]; exact hsel)
            clear hC hlb hbz hkk hsel hGL
            go_wp2_with fail
            go_roundw
            case rel => exact ⟨k + 1, m, b, G, by go_num, by omega, rfl, rfl, HR.out.skip (Below.refl _ _) HLW.out HN.out⟩
            case measure => simp [intOf]; omega
        · have hke : k = g.length := by omega
          have HF : Hid (b = false → SelMax G) := fun e => by subst e; exact sl_max HR.out (by omega)
          have HM : Hid (2 * (g.length - m) + (if b = true then 1 else 0) < 2 * (g.length - m0) + 1) := by
            unfold Hid
            have h1 := HR.out.yes
            have h2 := HR.out.no
            have h3 := HR.out.le
            cases b with
            | false => rw [(h2 rfl).1]; simp
            | true =>
              have h4 := h1 rfl
              rw [if_pos rfl]
              have h5 : g.length - m < g.length - m0 := Nat.sub_lt_sub_left (Nat.lt_of_lt_of_le h4 hml) h4
              exact Nat.succ_lt_succ (Nat.mul_lt_mul_of_pos_left h5 (by decide))
          clear hke
          go_wp2_with fail
          go_roundw
          case rel => exact ⟨m, b, G, rfl, rfl, hml, HR.out.rel, HR.out.own, HR.out.bel, HF.out⟩
          case measure => have := HM.out; cases b <;> simp [intOf] at this ⊢ <;> omega

set_option maxHeartbeats 800000 in
theorem specSelG_calls (g : List Ce) (v : Value) (w : World) (hk : CIn w g v) :
    Calls Try.prog 23 #[v] w fun e w' => ∃ gv, e = .returned (.tuple #[gv, .int .i64 ((selO g).2 : Int), .bool (graphB g 6)]) ∧ CIn w' (selO g).1 gv ∧ Below w.heap.size w w' := by
  have HK : Hid (CIn w g v) := hk
  clear hk
  go_enter Try.func23, Try.ntmps23
  go_wp2_with fail
  refine (specGraph_calls g 6 _ _ HK.out).mono ?_
  rintro e w1 ⟨rfl, hb1⟩
  have HB1 : Hid (Below w.heap.size w w1) := hb1
  clear hb1
  cases hg : graphB g 6 with
  | false =>
    have HV := mkHid (selO_no hg)
    have HT := mkHid hg
    clear hg
    go_wp2_with fail
    go_ret3
    rw [HV.out, HT.out]
    exact ⟨_, rfl, cin_nil _ _ 0 (by simp [maxLen]), HB1.out.alloc HB1.out.size _⟩
  | true =>
    have HT := mkHid hg
    have HV := mkHid (selO_yes hg)
    clear hg
    go_wp2_with fail
    refine (l5Select_calls g _ _ (HK.out.next HB1.out) HT.out).mono ?_
    rintro e w2 ⟨gv, rfl, ho, hb2⟩
    have HO := mkHid (ho.cin fun k h _ => h)
    have HB2 : Hid (Below w.heap.size w w2) := HB1.out.trans (hb2.mono HB1.out.size)
    clear ho hb2
    go_wp2_with fail
    go_ret3
    rw [HV.out, HT.out]
    exact ⟨_, rfl, HO.out, HB2.out⟩
end Go.Proofs.Ytjpjikfmdaejeaa
/-
  THE MODEL's TidyGraph.
-/
namespace Go.Proofs.Ytjpjikfmdaejeaa
set_option linter.unusedVariables false
set_option linter.unusedSimpArgs false
open Go.RowKit

set_option maxHeartbeats 800000 in
theorem specTidy_calls (g : List Ce) (rs : List Int) (v rv : Value) (w : World) (hk : CIn w g v) (hr : IIn w rs rv) :
    Calls Try.prog 25 #[v, rv] w (GotGI (tidyO g rs) (rootB g rs) w) := by
  have HK : Hid (CIn w g v) := hk
  have HR : Hid (IIn w rs rv) := hr
  clear hk hr
  go_enter Try.func25, Try.ntmps25
  go_wp2_with fail
  refine (l5Right_calls g rs _ _ _ HK.out HR.out).mono ?_
  rintro e w1 ⟨rfl, hb1⟩
  have HB1 : Hid (Below w.heap.size w w1) := hb1
  clear hb1
  cases hg : rootB g rs with
  | false =>
    have HV := mkHid (tidyO_no hg)
    have HT := mkHid hg
    clear hg
    go_wp2_with fail
    go_ret3
    rw [HV.out, HT.out]
    exact ⟨_, _, rfl, cin_nil _ _ 0 (by simp [maxLen]), iin_nil _ _ 0 (by simp [maxLen]), (HB1.out.alloc HB1.out.size _).alloc (by rw [Deep.nblk_alloc]; have := HB1.out.size; omega) _⟩
  | true =>
    have HT := mkHid hg
    have HG := mkHid (rootB_iff.1 hg).1
    have HOK := mkHid (selRes_ok HG.out)
    have HV := mkHid ((tidyO_yes hg).trans (collO_yes (by rw [rootB_sel HG.out]; exact hg)))
    have HR2 : Hid (IIn w1 (plI (natL rs)) rv) := by
      have h := HR.out.next HB1.out
      rw [root_back hg] at h
      exact h
    clear hg
    go_wp2_with fail
    refine (l5Select_calls g _ _ (HK.out.next HB1.out) HG.out).mono ?_
    rintro e w2 ⟨gv, rfl, ho, hb2⟩
    have HO := mkHid (ho.cin fun k h _ => h)
    have HR3 := mkHid (HR2.out.next hb2)
    have HB2 : Hid (Below w.heap.size w w2) := HB1.out.trans (hb2.mono HB1.out.size)
    clear ho hb2
    go_wp2_with fail
    refine (l5Collect_calls (selRes g).1 (natL rs) _ _ _ HO.out HR3.out HOK.out.1 (fun x hx => by rw [HOK.out.2.1]; exact root_lt HT.out x hx) (by rw [natL_len]; exact (rootB_iff.1 HT.out).2.1)).mono ?_
    rintro e w3 ⟨gv2, tv2, rfl, ho, hs, hb3⟩
    have HO3 := mkHid (ho.cin fun k h _ => h)
    have HS3 := mkHid hs.pin
    have HB3 : Hid (Below w.heap.size w w3) := HB2.out.trans (hb3.mono HB2.out.size)
    clear ho hs hb3
    go_wp2_with fail
    go_ret3
    rw [HV.out, HT.out]
    exact ⟨_, _, rfl, HO3.out, HS3.out, HB3.out⟩
end Go.Proofs.Ytjpjikfmdaejeaa
/-
  THE CELLS OF A COPIER: the first ones are scanned, the others still have the operands of the old space.
-/
namespace Go.Proofs.Ytjpjikfmdaejeaa
set_option linter.unusedVariables false
set_option linter.unusedSimpArgs false
open Go.RowKit

/-- all blocks but those of a set are as they were -/
structure ButP (U : Nat → Prop) (w w' : World) : Prop where
  os : w'.os = w.os
  tape : w'.tape = w.tape
  output : w'.output = w.output
  size : w.heap.size ≤ w'.heap.size
  block : ∀ k, k < w.heap.size → ¬ U k → w'.heap[k]? = w.heap[k]?
theorem ButP.refl (U : Nat → Prop) (w : World) : ButP U w w := ⟨rfl, rfl, rfl, Nat.le_refl _, fun _ _ _ => rfl⟩
theorem ButP.trans {U V : Nat → Prop} {a c d : World} (h : ButP U a c) (k : ButP V c d) (hV : ∀ x, V x → x < a.heap.size → U x) : ButP U a d :=
  ⟨k.os.trans h.os, k.tape.trans h.tape, k.output.trans h.output, Nat.le_trans h.size k.size, fun i hi hb => (k.block i (Nat.lt_of_lt_of_le hi h.size) (fun e => hb (hV i e hi))).trans (h.block i hi hb)⟩
theorem ButP.mono {U V : Nat → Prop} {w w' : World} (h : ButP U w w') (hs : ∀ k, U k → k < w.heap.size → V k) : ButP V w w' := ⟨h.os, h.tape, h.output, h.size, fun k hk hb => h.block k hk fun e => hb (hs k e hk)⟩
theorem ButP.of_below {U : Nat → Prop} {w w' : World} (h : Below w.heap.size w w') : ButP U w w' := ⟨h.os, h.tape, h.output, h.size, fun k hk _ => h.block k hk⟩
theorem ButP.below {U : Nat → Prop} {lo : Nat} {w w' : World} (h : ButP U w w') (hU : ∀ k, U k → lo ≤ k) (hl : lo ≤ w.heap.size) : Below lo w w' := ⟨h.os, h.tape, h.output, h.size, fun k hk => h.block k (Nat.lt_of_lt_of_le hk hl) fun e => by have := hU k e; omega⟩
theorem ButP.of_grown {U : Nat → Prop} {w w' : World} {r : Option Nat} (h : w.grownBy w' r) (hU : ∀ k, some k = r → U k) : ButP U w w' := ⟨h.os, h.tape, h.output, h.size, fun k hk hb => h.block k hk fun e => hb (hU k e)⟩
theorem ButP.of_set {U : Nat → Prop} {w : World} {a : Addr} {u : Value} (hU : U a.block) : ButP U w (w.setCell a u) := ⟨rfl, rfl, rfl, by rw [size_setCell]; exact Nat.le_refl _, fun k hk hb => Below.heap_setCell _ _ _ _ fun e => hb (by rw [e]; exact hU)⟩

theorem own_uniq {w : World} {lo lo' n s : Nat} {T : TypeId} {v : Value} {xs ys : List Value} (h : w.ownsRow lo T s v n xs) (h' : w.ownsRow lo' T s v n ys) : xs = ys := by
  have a1 := h.1
  have a2 := h'.1
  rcases h.2 with ⟨rfl, h0⟩ | ⟨b, cap, cur, rfl, hg, hh, hn', hc', hs', htk⟩
  · rw [h0] at a1 a2
    rw [List.eq_nil_of_length_eq_zero (by omega : xs.length = 0), List.eq_nil_of_length_eq_zero (by omega : ys.length = 0)]
  · rcases h'.2 with ⟨e, -⟩ | ⟨b2, cap2, cur2, e, -, hh2, -, -, -, htk2⟩
    · cases e
    · cases e
      rw [hh] at hh2
      cases hh2
      rw [← htk, ← htk2]
/-- a row of cells is no row of ints -/
theorem cellrow_ne {w : World} {lo n : Nat} {v : Value} {xs : List Value} (h : w.ownsRow lo 45 3 v n xs) {C : Array Value} {k : Nat} (hC : w.heap[k]? = some (.cells C 3 (0, 0))) : some k ≠ v.ownBlock := by
  intro e
  rcases h.2 with ⟨rfl, -⟩ | ⟨b2, cap, cur, rfl, -, hh, -⟩
  · simp [Value.ownBlock] at e
  · simp only [Value.ownBlock, Option.some.injEq] at e
    subst e
    rw [hh] at hC
    simp at hC

/-- the operands of copy j, in the row blk once it is scanned -/
def CpK (w : World) (lo : Nat) (S : Nat → Prop) (g : List Ce) (o : List Nat) (i j blk : Nat) (kv : Value) : Prop :=
  (j < i → KRowS w S ((kidsN g (o.getD j 0)).map fun k => (posN o k : Int)) blk kv) ∧ (¬ j < i → IntsOn w (Lt lo) (plI (kidsN g (o.getD j 0))) kv)
/-- the copies of the cells o, the first i of them scanned -/
def CpG (w : World) (lo : Nat) (S : Nat → Prop) (g : List Ce) (o : List Nat) (i : Nat) (v : Value) : Prop :=
  ∃ (xs : List Value) (kb : Nat → Nat), w.ownsRow lo 45 3 v o.length xs ∧
    (∀ j, j < o.length → I64 (opAt g (o.getD j 0)) ∧ I64 (numAt g (o.getD j 0)) ∧ ∃ kv, xs[j * 3]? = some (.int .i64 (opAt g (o.getD j 0))) ∧ xs[j * 3 + 1]? = some (.int .i64 (numAt g (o.getD j 0))) ∧ xs[j * 3 + 2]? = some kv ∧ CpK w lo S g o i j (kb j) kv) ∧
    ∀ a b, a < i → b < i → a < o.length → b < o.length → a ≠ b → kidsN g (o.getD a 0) ≠ [] → kidsN g (o.getD b 0) ≠ [] → kb a ≠ kb b
theorem CpG.nil (w : World) (lo : Nat) (S : Nat → Prop) (g : List Ce) : CpG w lo S g [] 0 (.slice none 0 0) :=
  ⟨[], fun _ => 0, World.ownsRow_nil w lo _ _, fun j hj => absurd hj (by simp), fun a b ha => absurd ha (by omega)⟩
theorem CpG.row {w : World} {lo : Nat} {S : Nat → Prop} {g : List Ce} {o : List Nat} {i : Nat} {v : Value} (h : CpG w lo S g o i v) : ∃ xs, w.ownsRow lo 45 3 v o.length xs := by
  obtain ⟨xs, kb, h1, -⟩ := h; exact ⟨xs, h1⟩
theorem CpG.form {w : World} {lo : Nat} {S : Nat → Prop} {g : List Ce} {o : List Nat} {i : Nat} {v : Value} (h : CpG w lo S g o i v) : ∃ ad cap, v = .slice ad o.length cap := by
  obtain ⟨xs, h1⟩ := h.row
  rcases h1.2 with ⟨rfl, h0⟩ | ⟨b, cap, cur, rfl, -⟩
  · exact ⟨none, 0, by rw [h0]⟩
  · exact ⟨_, _, rfl⟩
theorem CpK.keep {w w' : World} {lo : Nat} {S S' : Nat → Prop} {g : List Ce} {o o' : List Nat} {i j blk : Nat} {kv : Value} (h : CpK w lo S g o i j blk kv) (hS : ∀ k, S k → k < w.heap.size → S' k) (hb : ∀ k C, S k → k < w.heap.size → w.heap[k]? = some (.cells C 3 (0, 0)) → w'.heap[k]? = w.heap[k]?) (hl : ∀ k, k < lo → w'.heap[k]? = w.heap[k]?)
    (ho : o'.getD j 0 = o.getD j 0) (hp : j < i → ∀ k ∈ kidsN g (o.getD j 0), posN o' k = posN o k) : CpK w' lo S' g o' i j blk kv := by
  refine ⟨fun hj => ?_, fun hj => ?_⟩
  · rw [ho]
    have e : (kidsN g (o.getD j 0)).map (fun k => (posN o' k : Int)) = (kidsN g (o.getD j 0)).map (fun k => (posN o k : Int)) := List.map_congr_left fun k hk => by rw [hp hj k hk]
    rw [e]
    exact (h.1 hj).keep hS fun C h1 h2 h3 => hb _ C h1 h2 h3
  · rw [ho]
    exact (h.2 hj).mono (fun _ hk => hk) fun k hk => hl k hk
theorem CpG.next {w w' : World} {lo : Nat} {S S' : Nat → Prop} {g : List Ce} {o : List Nat} {i : Nat} {v : Value} (h : CpG w lo S g o i v) (hS : ∀ k, S k → k < w.heap.size → S' k) (hr : ∀ k, some k = v.ownBlock → k < w.heap.size → w'.heap[k]? = w.heap[k]?) (hb : ∀ k C, S k → k < w.heap.size → w.heap[k]? = some (.cells C 3 (0, 0)) → w'.heap[k]? = w.heap[k]?) (hl : ∀ k, k < lo → w'.heap[k]? = w.heap[k]?) : CpG w' lo S' g o i v := by
  obtain ⟨xs, kb, h1, h2, h3⟩ := h
  refine ⟨xs, kb, ⟨h1.1, ?_⟩, fun j hj => ?_, h3⟩
  · rcases h1.2 with h | ⟨b, cap, cur, rfl, hg, hh, r⟩
    · exact Or.inl h
    · exact Or.inr ⟨b, cap, cur, rfl, hg, (hr b rfl (Array.getElem?_eq_some_iff.1 hh).1).trans hh, r⟩
  · obtain ⟨i1, i2, kv, e0, e1, e2, e3⟩ := h2 j hj
    exact ⟨i1, i2, kv, e0, e1, e2, e3.keep hS hb hl rfl fun _ _ _ => rfl⟩
theorem getD_snoc {o : List Nat} {a j : Nat} (h : j < o.length) : (o ++ [a]).getD j 0 = o.getD j 0 := by
  rw [List.getD_eq_getElem?_getD, List.getD_eq_getElem?_getD, List.getElem?_append_left h]
theorem getD_last (o : List Nat) (a : Nat) : (o ++ [a]).getD o.length 0 = a := by simp
/-- one copy more -/
theorem CpG.grow {w w' : World} {lo : Nat} {S : Nat → Prop} {g : List Ce} {o : List Nat} {i a : Nat} {v v' kv : Value} {xs : List Value} (h : CpG w lo S g o i v) (hi : i ≤ o.length) (hcl : ∀ j, j < i → ∀ k ∈ kidsN g (o.getD j 0), k ∈ o)
    (h64 : I64 (opAt g a) ∧ I64 (numAt g a)) (hk : IntsOn w' (Lt lo) (plI (kidsN g a)) kv) (hx : w.ownsRow lo 45 3 v o.length xs) (hown : w'.ownsRow lo 45 3 v' (o.length + 1) (xs ++ [.int .i64 (opAt g a), .int .i64 (numAt g a), kv]))
    (hb : ∀ k C, S k → k < w.heap.size → w.heap[k]? = some (.cells C 3 (0, 0)) → w'.heap[k]? = w.heap[k]?) (hl : ∀ k, k < lo → w'.heap[k]? = w.heap[k]?) : CpG w' lo S g (o ++ [a]) i v' := by
  obtain ⟨xs2, kb, h1, h2, h3⟩ := h
  obtain rfl := own_uniq hx h1
  have hlen := hx.1
  refine ⟨xs ++ [.int .i64 (opAt g a), .int .i64 (numAt g a), kv], kb, by simpa using hown, fun j hj => ?_, fun x y hx1 hy1 _ _ hne ex ey => ?_⟩
  · by_cases hjl : j < o.length
    · obtain ⟨i1, i2, kv', e0, e1, e2, e3⟩ := h2 j hjl
      rw [getD_snoc hjl]
      refine ⟨i1, i2, kv', ?_, ?_, ?_, ?_⟩
      · rw [List.getElem?_append_left (by omega)]; exact e0
      · rw [List.getElem?_append_left (by omega)]; exact e1
      · rw [List.getElem?_append_left (by omega)]; exact e2
      · exact e3.keep (fun _ h _ => h) hb hl (getD_snoc hjl) fun hji k hk => posN_app _ _ _ (hcl j hji k hk)
    · have hj' : j = o.length := by simp at hj; omega
      subst hj'
      rw [getD_last]
      refine ⟨h64.1, h64.2, kv, ?_, ?_, ?_, fun hj => absurd hj (by omega), fun _ => by rw [getD_last]; exact hk⟩
      · rw [List.getElem?_append_right (by omega)]; simp [hlen]
      · rw [List.getElem?_append_right (by omega)]; simp [hlen]
      · rw [List.getElem?_append_right (by omega)]; simp [hlen]
  · rw [getD_snoc (by omega)] at ex ey
    exact h3 x y hx1 hy1 (by omega) (by omega) hne ex ey
/-- copy i is scanned -/
theorem CpG.scan {w : World} {lo : Nat} {S : Nat → Prop} {g : List Ce} {o : List Nat} {i b cap blk : Nat} {kv : Value} (h : CpG w lo S g o i (.slice (some ⟨b, 0, none⟩) o.length cap)) (hi : i < o.length)
    (hk : KRowS w (fun x => x = blk) ((kidsN g (o.getD i 0)).map fun k => (posN o k : Int)) blk kv) (hS : ¬ S blk) : CpG (w.setCell ⟨b, i * 3 + 2, none⟩ kv) lo (fun x => S x ∨ x = blk) g o (i + 1) (.slice (some ⟨b, 0, none⟩) o.length cap) := by
  obtain ⟨xs, kb, h1, h2, h3⟩ := h
  have hx1 := (h1.stored (i * 3 + 2) kv).1
  have hlen := h1.1
  have hbl : lo ≤ b := own_block h1 rfl
  have keep : ∀ (k : Nat) (C : Array Value), w.heap[k]? = some (.cells C 3 (0, 0)) → (w.setCell ⟨b, i * 3 + 2, none⟩ kv).heap[k]? = w.heap[k]? := fun k C hC => Below.heap_setCell _ _ _ _ fun e => cellrow_ne h1 hC (by simp only [Value.ownBlock, Option.some.injEq]; exact e)
  have keepl : ∀ k, k < lo → (w.setCell ⟨b, i * 3 + 2, none⟩ kv).heap[k]? = w.heap[k]? := fun k hk => Below.heap_setCell _ _ _ _ (by show k ≠ b; omega)
  refine ⟨xs.set (i * 3 + 2) kv, fun j => if j = i then blk else kb j, hx1, fun j hj => ?_, fun x y hx1 hy1 hxl hyl hne ex ey => ?_⟩
  · obtain ⟨i1, i2, kv', e0, e1, e2, e3⟩ := h2 j hj
    by_cases hji : j = i
    · subst hji
      refine ⟨i1, i2, kv, ?_, ?_, ?_, fun _ => ?_, fun hn => absurd hn (by omega)⟩
      · rw [List.getElem?_set_ne (by omega)]; exact e0
      · rw [List.getElem?_set_ne (by omega)]; exact e1
      · rw [List.getElem?_set_self (by omega)]
      · simp only [if_pos]
        exact hk.keep (fun k hk _ => Or.inr hk) fun C _ _ hC => keep _ C hC
    · refine ⟨i1, i2, kv', ?_, ?_, ?_, ?_⟩
      · rw [List.getElem?_set_ne (by omega)]; exact e0
      · rw [List.getElem?_set_ne (by omega)]; exact e1
      · rw [List.getElem?_set_ne (by omega)]; exact e2
      · simp only [if_neg hji]
        have h4 : CpK (w.setCell ⟨b, i * 3 + 2, none⟩ kv) lo (fun x => S x ∨ x = blk) g o i j (kb j) kv' := e3.keep (fun k hk _ => Or.inl hk) (fun k C _ _ hC => keep k C hC) keepl rfl fun _ _ _ => rfl
        exact ⟨fun hj => h4.1 (by omega), fun hj => h4.2 (by omega)⟩
  · have ne : ∀ q, q < i → q < o.length → kidsN g (o.getD q 0) ≠ [] → kb q ≠ blk := by
      intro q hq hql hne e
      obtain ⟨-, -, kv', -, -, -, e3⟩ := h2 q hql
      obtain ⟨_, _, _, _, _, h5⟩ := e3.1 hq
      rcases h5 with h5 | ⟨f5, -, h6, -⟩
      · exact hne (by simpa using h5)
      · exact hS (e ▸ h6)
    by_cases hxi : x = i
    · have hyi : ¬ y = i := by omega
      simp only [if_pos hxi, if_neg hyi]
      exact (ne y (by omega) hyl ey).symm
    · by_cases hyi : y = i
      · simp only [if_neg hxi, if_pos hyi]
        exact ne x (by omega) hxl ex
      · simp only [if_neg hxi, if_neg hyi]
        exact h3 x y (by omega) (by omega) hxl hyl hne ex ey
/-- all are scanned -/
theorem CpG.done {w : World} {lo : Nat} {S : Nat → Prop} {g : List Ce} {o : List Nat} {i : Nat} {v : Value} (h : CpG w lo S g o i v) (hi : o.length ≤ i) : OwnC w lo S (o.map (cpCell g o)) v := by
  obtain ⟨xs, kb, h1, h2, h3⟩ := h
  have hat : ∀ j (hj : j < (o.map (cpCell g o)).length), (o.map (cpCell g o))[j] = cpCell g o (o.getD j 0) := fun j hj => by
    rw [List.length_map] at hj
    rw [List.getElem_map, getD_at _ _ _ hj]
  refine ⟨fun j hj => ?_, xs, kb, by rw [List.length_map]; exact h1, fun j hj => ?_, fun a b ha hb hne ea eb => ?_⟩
  · rw [hat j hj]
    rw [List.length_map] at hj
    obtain ⟨i1, i2, -⟩ := h2 j hj
    exact ⟨i1, i2⟩
  · rw [hat j hj]
    rw [List.length_map] at hj
    obtain ⟨i1, i2, kv, e0, e1, e2, e3⟩ := h2 j hj
    exact ⟨kv, e0, e1, e2, e3.1 (by omega)⟩
  · rw [hat a ha] at ea
    rw [hat b hb] at eb
    rw [List.length_map] at ha hb
    exact h3 a b (by omega) (by omega) ha hb hne (by simpa [cpCell] using ea) (by simpa [cpCell] using eb)
end Go.Proofs.Ytjpjikfmdaejeaa
/-
  A MAP FROM PLACES TO PLACES: the places of a list.
-/
namespace Go.Proofs.Ytjpjikfmdaejeaa
set_option linter.unusedVariables false
set_option linter.unusedSimpArgs false
open Go.RowKit Go.Maps

theorem keyedI : Keyed Try.prog 3 := int_keyed Try.underlying3
theorem zeroI (w : World) : (zeroValue 3).run Try.prog w = .ok (.int .i64 0) w := by kernel_rfl
theorem litI_wf (x : Nat) (h : x ≤ 1048576) : (Lit.int .i64 (x : Int)).wf = true := by
  simp only [Lit.wf, IntKind.min, IntKind.max, IntKind.signed, IntKind.bits, Bool.and_eq_true, decide_eq_true_eq, if_true]
  omega
theorem litI_ne {a b : Nat} (h : a ≠ b) : Lit.int .i64 (a : Int) ≠ Lit.int .i64 (b : Int) := by
  intro e
  simp only [Lit.int.injEq] at e
  omega
/-- block M is a map that holds the place of each cell of a list, and nothing else -/
def MapN (w : World) (M : Nat) (o : List Nat) : Prop :=
  ∃ (n : Nat) (D : DataW Unit), w.ownsMap Try.prog 3 (plainElem Try.prog 3) M n D ∧ n ≤ o.length ∧ ∀ x : Nat, x ≤ 1048576 → has D (.int .i64 (x : Int)) = memB o x ∧ (x ∈ o → D.atKey (.int .i64 (x : Int)) (.lit (.int .i64 0)) = .lit (.int .i64 (posN o x : Int)))
theorem MapN.made (w : World) : MapN (w.alloc (.map #[] 0)) w.heap.size [] := ⟨0, _, World.ownsMap_made w _ _ _, Nat.le_refl _, fun x _ => ⟨by simp [has, memB], fun h => by simp at h⟩⟩
theorem MapN.lt {w : World} {M : Nat} {o : List Nat} (h : MapN w M o) : M < w.heap.size := by obtain ⟨n, D, h1, -⟩ := h; exact h1.lt
theorem MapN.of_block {w w' : World} {M : Nat} {o : List Nat} (h : MapN w M o) (hb : w'.heap[M]? = w.heap[M]?) : MapN w' M o := by
  obtain ⟨n, D, ⟨es, clock, h1, h2⟩, h3⟩ := h
  exact ⟨n, D, ⟨es, clock, hb.trans h1, h2⟩, h3⟩
/-- it is no row -/
theorem MapN.ne_row {w : World} {M : Nat} {o : List Nat} (h : MapN w M o) {b : Nat} {C : Array Value} {T : TypeId} (hb : w.heap[b]? = some (.cells C T)) : b ≠ M := by
  intro e
  subst e
  obtain ⟨n, D, ⟨es, clock, h1, h2⟩, h3⟩ := h
  rw [h1] at hb
  cases hb
theorem keyLitI (x : Nat) : WideAt.IsKeyLit (Lit.int .i64 (x : Int)) := by simp [WideAt.IsKeyLit]
theorem mapN_put {w : World} {M n : Nat} {o : List Nat} {D : DataW Unit} {x : Nat} (h : w.ownsMap Try.prog 3 (plainElem Try.prog 3) M (n + 1) (D.put (.int .i64 (x : Int)) (.lit (.int .i64 (o.length : Int))))) (hm : IsMap D) (hn : n ≤ o.length)
    (hs : ∀ x : Nat, x ≤ 1048576 → has D (.int .i64 (x : Int)) = memB o x ∧ (x ∈ o → D.atKey (.int .i64 (x : Int)) (.lit (.int .i64 0)) = .lit (.int .i64 (posN o x : Int)))) (hx : x ∉ o) : MapN w M (o ++ [x]) := by
  refine ⟨n + 1, _, h, by simp; omega, fun y hy => ?_⟩
  by_cases e : y = x
  · subst e
    refine ⟨?_, fun _ => ?_⟩
    · rw [has_put_same hm (keyLitI y)]; simp [memB]
    · rw [atKey_put_same hm (keyLitI y), posN_snoc o y hx]
  · have hne : Lit.int .i64 (y : Int) ≠ Lit.int .i64 (x : Int) := litI_ne e
    refine ⟨?_, fun hy2 => ?_⟩
    · rw [has_put_other hne, (hs y hy).1]; simp [memB, e]
    · have hyo : y ∈ o := by
        rcases List.mem_append.1 hy2 with h | h
        · exact h
        · exact absurd (by simpa using h) e
      rw [atKey_put_other hne, (hs y hy).2 hyo, posN_app _ _ _ hyo]
end Go.Proofs.Ytjpjikfmdaejeaa
/-
  THE PROGRAM's arena, wherever it lies: one cell more.
-/
namespace Go.Proofs.Ytjpjikfmdaejeaa
set_option linter.unusedVariables false
set_option linter.unusedSimpArgs false
open Go.RowKit

theorem row_ne_cells {w : World} {A lo n : Nat} {T : TypeId} {CC : Array Value} {gv : Value} {xs : List Value} (hT : T ≠ 45) (hA : w.heap[A]? = some (.cells CC T)) (hx : w.ownsRow lo 45 3 gv n xs) : some A ≠ gv.ownBlock := by
  intro e
  rcases hx.2 with ⟨rfl, -⟩ | ⟨b, cap, cur, rfl, -, hh, -⟩
  · simp [Value.ownBlock] at e
  · simp only [Value.ownBlock, Option.some.injEq] at e
    subst e
    rw [hh] at hA
    simp only [Option.some.injEq, Obj.cells.injEq] at hA
    exact hT hA.2.1.symm
theorem grown_drew {w w5 : World} {b : Option Nat} (h : w.drew.grownBy w5 b) : w.grownBy w5 b := ⟨h.os, h.tape, h.output, h.size, h.block⟩
theorem arp_keep {w w5 : World} {A lo n : Nat} {T : TypeId} {CC : Array Value} {gv : Value} {xs : List Value} {o1 o2 : Obj} (hT : T ≠ 45) (hA : w.heap[A]? = some (.cells CC T)) (hx : w.ownsRow lo 45 3 gv n xs) (hg : ((w.alloc o1).alloc o2).grownBy w5 gv.ownBlock) : w5.heap[A]? = some (.cells CC T) := by
  have hl : A < w.heap.size := (Array.getElem?_eq_some_iff.1 hA).1
  exact ((hg.block A (by rw [Deep.nblk_alloc, Deep.nblk_alloc]; omega) (row_ne_cells hT hA hx)).trans ((Deep.blk_alloc_lt _ _ _ (by rw [Deep.nblk_alloc]; omega)).trans (Deep.blk_alloc_lt _ _ _ hl))).trans hA

/-- what add hands back: the cell's place; its row is the arena's -/
def AddedP (A q lo n : Nat) (o m : Int) (gv kv : Value) (xs : List Value) (w : World) (e : Ending) (w' : World) : Prop :=
  ∃ v' w5, e = .returned (.int .i64 (n : Int)) ∧ w5.ownsRow lo 45 3 v' (n + 1) (xs ++ [.int .i64 o, .int .i64 m, kv]) ∧ ((w.alloc (.cells #[.int .i64 o, .int .i64 m, kv] 45)).alloc (.cells #[.int .i64 o, .int .i64 m, kv] 45)).grownBy w5 gv.ownBlock ∧ (v'.ownBlock = gv.ownBlock ∨ ∃ g, v'.ownBlock = some g ∧ ((w.alloc (.cells #[.int .i64 o, .int .i64 m, kv] 45)).alloc (.cells #[.int .i64 o, .int .i64 m, kv] 45)).heap.size ≤ g) ∧ w' = w5.setCell ⟨A, q, none⟩ v'

set_option maxRecDepth 100000 in
set_option maxHeartbeats 1600000 in
theorem addP_calls (A q : Nat) (T : TypeId) (CC : Array Value) (hT : T ≠ 45) (lo n : Nat) (o m : Int) (gv : Value) (adk : Option Addr) (nk ck : Nat) (xs : List Value) (w : World) (hA : w.heap[A]? = some (.cells CC T)) (hq : CC[q]? = some gv) (hx : w.ownsRow lo 45 3 gv n xs) (hlo : lo ≤ w.heap.size) (hn : n ≤ 500000) :
    Calls Try.prog 53 #[.pointer (some ⟨A, q, none⟩), .agg #[.int .i64 o, .int .i64 m, .slice adk nk ck]] w (AddedP A q lo n o m gv (.slice adk nk ck) xs w) := by
  have HA : Hid (w.heap[A]? = some (.cells CC T)) := hA
  have HX : Hid (w.ownsRow lo 45 3 gv n xs) := hx
  have a0 := cell_of_blk hA q _ hq
  have af := frz_of_blk hA q
  obtain ⟨ad, cap, rfl⟩ : ∃ ad cap, gv = .slice ad n cap := by
    rcases hx.2 with ⟨rfl, h0⟩ | ⟨b, cap, cur, rfl, -⟩
    · exact ⟨none, 0, by rw [h0]⟩
    · exact ⟨_, _, rfl⟩
  have HQ := mkHid hq
  clear hA hx hq
  go_enter Try.func53, Try.ntmps53
  have p0 := old_cell a0 (.cells #[.int .i64 o, .int .i64 m, .slice adk nk ck] 45)
  have p1 := old_cell p0 (.cells #[.int .i64 o, .int .i64 m, .slice adk nk ck] 45)
  have b0 := box_cell w #[.int .i64 o, .int .i64 m, .slice adk nk ck] 45 0 _ rfl
  have b1 := box_cell w #[.int .i64 o, .int .i64 m, .slice adk nk ck] 45 1 _ rfl
  have b2 := box_cell w #[.int .i64 o, .int .i64 m, .slice adk nk ck] 45 2 _ rfl
  obtain ⟨iC, zC, hII⟩ := infoC1
  have HII : Hid (Try.prog.info? 45 = some iC ∧ iC.zero = some zC ∧ iC.size = 3 ∧ iC.bytes = 40 ∧ zC.cells.size = 3) := hII
  have HX2 : Hid (((w.alloc (.cells #[.int .i64 o, .int .i64 m, .slice adk nk ck] 45)).alloc (.cells #[.int .i64 o, .int .i64 m, .slice adk nk ck] 45)).drew.ownsRow lo 45 3 (.slice ad n cap) n xs) := own_keep (own_keep (own_keep HX.out (fun k _ hk => Deep.blk_alloc_lt _ _ _ hk)) (fun k _ hk => Deep.blk_alloc_lt _ _ _ hk)) (fun _ _ _ => rfl)
  clear hII
  go_wp2_with fail
  go_region_law (refine step_append_where rfl (.tmp 9) (.tmp 11) 25 rfl lo 45 iC zC 3 40 Try.underlying25 HII.out.1 HII.out.2.1 HII.out.2.2.1 HII.out.2.2.2.1 HII.out.2.2.2.2 (by decide) (.slice ad n cap) n xs (by simp [Act.eval, Act.put]) HX2.out ⟨w.heap.size + 1, 0, none⟩ 1 1 [.int .i64 o, .int .i64 m, .slice adk nk ck] (by simp [Act.eval, Act.put]) rfl (by have h := news3c (w.alloc (.cells #[.int .i64 o, .int .i64 m, .slice adk nk ck] 45)) (.int .i64 o) (.int .i64 m) (.slice adk nk ck); rw [Deep.nblk_alloc] at h; exact h) (by simp [Value.oneCell']) (by unfold maxLen; omega) (by omega) (by show lo ≤ ((w.alloc _).alloc _).heap.size; simp only [Deep.nblk_alloc]; omega) (by omega) ?_; intro v' w5 hown hg0 hw; have hg := grown_drew hg0; clear hg0; obtain ⟨g', c', rfl, -, -, -, -⟩ := own_form hown (by omega); have s2 := cell_of_blk (arp_keep hT HA.out HX.out hg) q _ HQ.out; have sf := frz_of_blk (arp_keep hT HA.out HX.out hg) q)
  all_goals
    have hn0 : ¬ ((n : Int) + 1 - 1 < 0) := by omega
    have h64 : IntKind.i64.wrap ((n : Int) + 1 - 1) = (n : Int) := by rw [show (n : Int) + 1 - 1 = (n : Int) by omega]; exact IntWalk.i64_in _ (by omega)
    go_wp2_with fail
    go_ret
    exact ⟨_, w5, rfl, hown, hg, hw, rfl⟩
end Go.Proofs.Ytjpjikfmdaejeaa
/-
  THE PROGRAM's copier IN MEMORY; one cell more.
-/
namespace Go.Proofs.Ytjpjikfmdaejeaa
set_option linter.unusedVariables false
set_option linter.unusedSimpArgs false
open Go.RowKit

/-- a copier in block C, its map in block M; its blocks are of U; the old space lies below lo -/
structure CopW (C M lo : Nat) (g : List Ce) (fv : Value) (o : List Nat) (i : Nat) (U : Nat → Prop) (gv ov : Value) (w : World) : Prop where
  box : w.heap[C]? = some (.cells #[fv, gv, .map (some M), ov] 54)
  cells : CpG w lo (fun k => U k ∧ some k ≠ ov.ownBlock) g o i gv
  order : Stk w lo o ov
  map : MapN w M o
  gU : ∀ k, some k = gv.ownBlock → U k
  oU : ∀ k, some k = ov.ownBlock → U k
  cU : U C
  mU : U M
  cl : lo ≤ C
  ml : lo ≤ M
  src : CellsOn w (Lt lo) g fv
theorem copier_ne_int : (54 : TypeId) ≠ 3 := by decide
theorem copier_ne_cell : (54 : TypeId) ≠ 45 := by decide
theorem own_ne_cells {w : World} {lo n s : Nat} {T T' : TypeId} {v : Value} {xs CC : List Value} {b : Nat} {C : Array Value} (h : w.ownsRow lo T s v n xs) (hb : w.heap[b]? = some (.cells C T')) (hT : T' ≠ T) : some b ≠ v.ownBlock := by
  intro e
  rcases h.2 with ⟨rfl, -⟩ | ⟨g, cap, cur, rfl, -, hh, -⟩
  · simp [Value.ownBlock] at e
  · simp only [Value.ownBlock, Option.some.injEq] at e
    subst e
    rw [hh] at hb
    simp only [Option.some.injEq, Obj.cells.injEq] at hb
    exact hT hb.2.1.symm
theorem own_ne_map {w : World} {lo n s M : Nat} {T : TypeId} {v : Value} {xs : List Value} {o : List Nat} (h : w.ownsRow lo T s v n xs) (hM : MapN w M o) : some M ≠ v.ownBlock := by
  intro e
  rcases h.2 with ⟨rfl, -⟩ | ⟨g, cap, cur, rfl, -, hh, -⟩
  · simp [Value.ownBlock] at e
  · simp only [Value.ownBlock, Option.some.injEq] at e
    exact hM.ne_row hh e.symm
theorem CopW.lt {C M lo : Nat} {g : List Ce} {fv : Value} {o : List Nat} {i : Nat} {U : Nat → Prop} {gv ov : Value} {w : World} (h : CopW C M lo g fv o i U gv ov w) : C < w.heap.size := (Array.getElem?_eq_some_iff.1 h.box).1
theorem CopW.ne {C M lo : Nat} {g : List Ce} {fv : Value} {o : List Nat} {i : Nat} {U : Nat → Prop} {gv ov : Value} {w : World} (h : CopW C M lo g fv o i U gv ov w) : C ≠ M := h.map.ne_row h.box
/-- what add leaves -/
theorem CopW.add {C M lo : Nat} {g : List Ce} {fv : Value} {o : List Nat} {i a : Nat} {U : Nat → Prop} {gv ov kv : Value} {w w1 : World} {xs : List Value} {e : Ending} (h : CopW C M lo g fv o i U gv ov w) (hi : i ≤ o.length) (hcl : ∀ j, j < i → ∀ k ∈ kidsN g (o.getD j 0), k ∈ o)
    (h64 : I64 (opAt g a) ∧ I64 (numAt g a)) (hk : IntsOn w (Lt lo) (plI (kidsN g a)) kv) (hx : w.ownsRow lo 45 3 gv o.length xs) (he : AddedP C 1 lo o.length (opAt g a) (numAt g a) gv kv xs w.drew e w1) (hlo : lo ≤ w.heap.size) :
    e = .returned (.int .i64 (o.length : Int)) ∧ ∃ gv', w1.heap[C]? = some (.cells #[fv, gv', .map (some M), ov] 54) ∧ CpG w1 lo (fun k => U k ∧ some k ≠ ov.ownBlock) g (o ++ [a]) i gv' ∧ (∀ k, some k = gv'.ownBlock → some k = gv.ownBlock ∨ w.heap.size ≤ k) ∧ ButP (fun k => k = C ∨ some k = gv.ownBlock) w w1 := by
  obtain ⟨v', w5, rfl, hown, hg, hw, rfl⟩ := he
  have hCl := h.lt
  have k5 : ∀ k, k < w.heap.size → some k ≠ gv.ownBlock → w5.heap[k]? = w.heap[k]? := fun k hk hn => (hg.block k (by show k < ((w.drew.alloc _).alloc _).heap.size; rw [Deep.nblk_alloc, Deep.nblk_alloc]; show k < w.heap.size + 1 + 1; omega) hn).trans ((Deep.blk_alloc_lt _ _ _ (by rw [Deep.nblk_alloc]; show k < w.heap.size + 1; omega)).trans (Deep.blk_alloc_lt _ _ _ hk))
  have hs5 : w.heap.size + 2 ≤ w5.heap.size := by
    have h1 := hg.size
    rw [Deep.nblk_alloc, Deep.nblk_alloc] at h1
    have : w.drew.heap.size = w.heap.size := rfl
    omega
  have hCg : some C ≠ gv.ownBlock := own_ne_cells (CC := []) hx h.box copier_ne_cell
  have hC5 := (k5 C hCl hCg).trans h.box
  have hCv : some C ≠ v'.ownBlock := own_ne_cells (CC := []) hown hC5 copier_ne_cell
  have k6 : ∀ k, k < w.heap.size → some k ≠ gv.ownBlock → k ≠ C → (w5.setCell ⟨C, 1, none⟩ v').heap[k]? = w.heap[k]? := fun k hk hn hc => (Below.heap_setCell _ _ _ _ hc).trans (k5 k hk hn)
  have hlow : ∀ k, k < lo → (w5.setCell ⟨C, 1, none⟩ v').heap[k]? = w.heap[k]? := fun k hk => k6 k (by omega) (fun e => by have := own_block hx e; omega) (by have := h.cl; omega)
  refine ⟨rfl, v', ?_, ?_, ?_, ?_⟩
  · simp [World.setCell, Array.getElem?_modify, hC5]
  · refine h.cells.grow hi hcl h64 (hk.mono (fun _ h => h) fun k hk => hlow k hk) hx ?_ (fun k D hS hk hD => ?_) hlow
    · refine ⟨hown.1, ?_⟩
      rcases hown.2 with h' | ⟨b, cap, cur, rfl, hb, hh, r⟩
      · exact Or.inl h'
      · exact Or.inr ⟨b, cap, cur, rfl, hb, (Below.heap_setCell _ _ _ _ (fun e => hCv (by simp only [Value.ownBlock, Option.some.injEq]; exact e.symm))).trans hh, r⟩
    · refine k6 k hk (cellrow_ne hx hD) fun e => ?_
      subst e
      rw [h.box] at hD
      simp only [Option.some.injEq, Obj.cells.injEq] at hD
      exact copier_ne_int hD.2.1
  · intro k hk
    rcases hw with e | ⟨q, e, hq⟩
    · rw [e] at hk; exact Or.inl hk
    · rw [e] at hk
      simp only [Option.some.injEq] at hk
      rw [Deep.nblk_alloc, Deep.nblk_alloc] at hq
      have : w.drew.heap.size = w.heap.size := rfl
      exact Or.inr (by omega)
  · exact ⟨hg.os, hg.tape, hg.output, by rw [size_setCell]; omega, fun k hk hn => k6 k hk (fun e => hn (Or.inr e)) fun e => hn (Or.inl e)⟩
/-- what the map and the order add to it -/
theorem CopW.fin {C M lo : Nat} {g : List Ce} {fv : Value} {o : List Nat} {i a : Nat} {U : Nat → Prop} {gv gv' ov ov' : Value} {w w1 w2 w3 : World} {obj : Obj} (h : CopW C M lo g fv o i U gv ov w) (hlo : lo ≤ w.heap.size)
    (hC1 : w1.heap[C]? = some (.cells #[fv, gv', .map (some M), ov] 54)) (hG1 : CpG w1 lo (fun k => U k ∧ some k ≠ ov.ownBlock) g (o ++ [a]) i gv') (hv : ∀ k, some k = gv'.ownBlock → some k = gv.ownBlock ∨ w.heap.size ≤ k) (hB1 : ButP (fun k => k = C ∨ some k = gv.ownBlock) w w1)
    (hM1 : MapN w1 M o) (hM2 : MapN w2 M (o ++ [a])) (hg2 : w1.grownBy w2 (some M)) (hO2 : Stk w2 lo o ov) (hO3 : Stk w3 lo (o ++ [a]) ov') (hg3 : (w2.alloc obj).grownBy w3 ov.ownBlock) (hw3 : ov'.ownBlock = ov.ownBlock ∨ ∃ q, ov'.ownBlock = some q ∧ (w2.alloc obj).heap.size ≤ q) :
    CopW C M lo g fv (o ++ [a]) i (fun k => U k ∨ w.heap.size ≤ k) gv' ov' (w3.setCell ⟨C, 3, none⟩ ov') ∧ ButP U w (w3.setCell ⟨C, 3, none⟩ ov') := by
  have hs1 := hB1.size
  have hs2 := hg2.size
  have hs3 := hg3.size
  rw [Deep.nblk_alloc] at hs3 hw3
  obtain ⟨xs, hx⟩ := hG1.row
  have hCl := h.lt
  have hCM := h.ne
  have hCo : some C ≠ ov.ownBlock := own_ne_cells (CC := []) h.order h.box copier_ne_int
  have hMl := hM1.lt
  have k3 : ∀ k, k < w2.heap.size → some k ≠ ov.ownBlock → w3.heap[k]? = w2.heap[k]? := fun k hk hn => (hg3.block k (by rw [Deep.nblk_alloc]; omega) hn).trans (Deep.blk_alloc_lt _ _ _ hk)
  have k31 : ∀ k, k < w1.heap.size → some k ≠ ov.ownBlock → k ≠ M → w3.heap[k]? = w1.heap[k]? := fun k hk hn hm => (k3 k (by omega) hn).trans (hg2.block k hk (by simpa using hm))
  have hC3 := (k31 C (by omega) hCo hCM).trans hC1
  have hCo' : some C ≠ ov'.ownBlock := own_ne_cells (CC := []) hO3 hC3 copier_ne_int
  have k41 : ∀ k, k < w1.heap.size → some k ≠ ov.ownBlock → k ≠ M → k ≠ C → (w3.setCell ⟨C, 3, none⟩ ov').heap[k]? = w1.heap[k]? := fun k hk hn hm hc => (Below.heap_setCell _ _ _ _ hc).trans (k31 k hk hn hm)
  have hov : ∀ k, some k = ov'.ownBlock → some k = ov.ownBlock ∨ w2.heap.size < k := by
    intro k hk
    rcases hw3 with e | ⟨q, e, hq⟩
    · rw [e] at hk; exact Or.inl hk
    · rw [e] at hk; simp only [Option.some.injEq] at hk; exact Or.inr (by omega)
  have hlow : ∀ k, k < lo → (w3.setCell ⟨C, 3, none⟩ ov').heap[k]? = w.heap[k]? := fun k hk => (k41 k (by omega) (fun e => by have := own_block h.order e; omega) (by have := h.ml; omega) (by have := h.cl; omega)).trans (hB1.block k (by omega) fun e => by
    rcases e with e | e
    · have := h.cl; omega
    · obtain ⟨ys, hy⟩ := h.cells.row
      have := own_block hy e; omega)
  have hlow1 : ∀ k, k < lo → (w3.setCell ⟨C, 3, none⟩ ov').heap[k]? = w1.heap[k]? := fun k hk => k41 k (by omega) (fun e => by have := own_block h.order e; omega) (by have := h.ml; omega) (by have := h.cl; omega)
  refine ⟨⟨?_, ?_, ?_, ?_, ?_, ?_, Or.inl h.cU, Or.inl h.mU, h.cl, h.ml, h.src.mono (fun _ h => h) fun k hk => hlow k hk⟩, ?_⟩
  · simp [World.setCell, Array.getElem?_modify, hC3]
  · refine hG1.next (fun k hk hkl => ⟨Or.inl hk.1, fun e => ?_⟩) (fun k e hkl => ?_) (fun k D hS hkl hD => ?_) hlow1
    · rcases hov k e with e | e
      · exact hk.2 e
      · omega
    · have hkc : ∃ D, w1.heap[k]? = some (.cells D 45 (0, 0)) := by
        rcases hx.2 with ⟨rfl, -⟩ | ⟨b, cap, cur, rfl, -, hh, -⟩
        · simp [Value.ownBlock] at e
        · simp only [Value.ownBlock, Option.some.injEq] at e
          subst e; exact ⟨_, hh⟩
      obtain ⟨D, hD⟩ := hkc
      refine k41 k hkl (fun e2 => ?_) (hM1.ne_row hD) (fun e2 => ?_)
      · have h2 : w2.heap[k]? = some (.cells D 45 (0, 0)) := (hg2.block k hkl (by simpa using hM1.ne_row hD)).trans hD
        exact own_ne_cells (CC := []) hO2 h2 (by decide) e2
      · subst e2
        rw [hC1] at hD
        simp only [Option.some.injEq, Obj.cells.injEq] at hD
        exact copier_ne_cell hD.2.1
    · refine k41 k hkl hS.2 (hM1.ne_row hD) fun e2 => ?_
      subst e2
      rw [hC1] at hD
      simp only [Option.some.injEq, Obj.cells.injEq] at hD
      exact copier_ne_int hD.2.1
  · refine ⟨hO3.1, ?_⟩
    rcases hO3.2 with h' | ⟨b, cap, cur, rfl, hb, hh, r⟩
    · exact Or.inl h'
    · exact Or.inr ⟨b, cap, cur, rfl, hb, (Below.heap_setCell _ _ _ _ (fun e => hCo' (by simp only [Value.ownBlock, Option.some.injEq]; exact e.symm))).trans hh, r⟩
  · refine hM2.of_block ((Below.heap_setCell _ _ _ _ (fun e => hCM e.symm)).trans (k3 M (by omega) (own_ne_map hO2 hM2)))
  · intro k hk
    rcases hv k hk with e | e
    · exact Or.inl (h.gU k e)
    · exact Or.inr e
  · intro k hk
    rcases hov k hk with e | e
    · exact Or.inl (h.oU k e)
    · exact Or.inr (by omega)
  · refine ⟨(hg3.os.trans hg2.os).trans hB1.os, (hg3.tape.trans hg2.tape).trans hB1.tape, (hg3.output.trans hg2.output).trans hB1.output, by rw [size_setCell]; omega, fun k hk hn => ?_⟩
    refine (k41 k (by omega) (fun e => hn (h.oU k e)) (fun e => hn (e ▸ h.mU)) (fun e => hn (e ▸ h.cU))).trans (hB1.block k hk fun e => ?_)
    rcases e with e | e
    · exact hn (e ▸ h.cU)
    · exact hn (h.gU k e)
end Go.Proofs.Ytjpjikfmdaejeaa

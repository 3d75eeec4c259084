/-
  PLAIN: selections that are made early: in whichever order, the graph in the end is the same, and so is their number; a worklist with cells that wait for others finds them all. No program is named here.
-/
import Derived.Test.YtiipcgnkfhjpeaaGreatDoorMgExactEvalRun14
import Derived.Test.YtiipcgnkfhjpeaaGreatDoorMgExactEvalRun5
namespace Go.Proofs.YtiipcgnkfhjpeaaGreatDoor
set_option linter.unusedVariables false
set_option linter.unusedSimpArgs false

/-- cell a, or none -/
def cellD (g : List Ce) (a : Nat) : Ce := g.getD a ⟨0, 0, []⟩
theorem opAt_D (g : List Ce) (a : Nat) : opAt g a = (cellD g a).op := rfl
theorem nxt_D (g : List Ce) (a : Nat) : nxt g a = (kid0 (cellD g a)).toNat := rfl
theorem kidAt_D (g : List Ce) (a j : Nat) : kidAt g a j = ((cellD g a).kids.map Int.toNat).getD j 0 := rfl
theorem cellD_set (g : List Ce) (j : Nat) (c : Ce) (i : Nat) : cellD (g.set j c) i = if i = j ∧ j < g.length then c else cellD g i := by
  unfold cellD
  rw [List.getD_eq_getElem?_getD, List.getD_eq_getElem?_getD, List.getElem?_set]
  by_cases h : j = i
  · subst h
    by_cases h2 : j < g.length
    · simp [h2]
    · simp [h2]
  · rw [if_neg h, if_neg (fun e => h e.1.symm)]
theorem cellD_ne (g : List Ce) (j : Nat) (c : Ce) {i : Nat} (h : i ≠ j) : cellD (g.set j c) i = cellD g i := by rw [cellD_set, if_neg (fun e => h e.1)]
theorem cellD_eq (g : List Ce) {j : Nat} (c : Ce) (h : j < g.length) : cellD (g.set j c) j = c := by rw [cellD_set, if_pos ⟨rfl, h⟩]
theorem cellD_ext {a b : List Ce} (hl : a.length = b.length) (h : ∀ i, cellD a i = cellD b i) : a = b := by
  refine List.ext_getElem hl fun i h1 h2 => ?_
  have := h i
  unfold cellD at this
  rw [getD_at _ _ _ h1, getD_at _ _ _ h2] at this
  exact this

/-! ### What a change of a cell that is no indirection leaves -/
theorem follow_set {g : List Ce} {j : Nat} {c : Ce} (hj : opAt g j ≠ 11) : ∀ (n a k : Nat), followN g n a = some k → k ≠ j → followN (g.set j c) n a = some k
  | 0, _, _, h, _ => by simp [followN] at h
  | n + 1, a, k, h, hk => by
    unfold followN at h ⊢
    split at h
    · rename_i h1
      have ha : a ≠ j := fun e => hj (e ▸ h1)
      rw [opAt_D, cellD_ne _ _ _ ha, ← opAt_D, if_pos h1, nxt_D, cellD_ne _ _ _ ha, ← nxt_D]
      exact follow_set hj n _ k h hk
    · rename_i h1
      simp only [Option.some.injEq] at h
      subst h
      rw [opAt_D, cellD_ne _ _ _ hk, ← opAt_D, if_neg h1]
theorem follow_setn {g : List Ce} {j : Nat} {c : Ce} (hj : opAt g j ≠ 11) : ∀ (n a : Nat), followN g n a = none → followN (g.set j c) n a = none
  | 0, _, _ => rfl
  | n + 1, a, h => by
    unfold followN at h ⊢
    split at h
    · rename_i h1
      have ha : a ≠ j := fun e => hj (e ▸ h1)
      rw [opAt_D, cellD_ne _ _ _ ha, ← opAt_D, if_pos h1, nxt_D, cellD_ne _ _ _ ha, ← nxt_D]
      exact follow_setn hj n _ h
    · simp at h
/-- the same indirections lead to the same cell -/
theorem follow_agree {a b : List Ce} (h : ∀ x, opAt a x = 11 → cellD b x = cellD a x) : ∀ (n x k : Nat), followN a n x = some k → opAt b k ≠ 11 → followN b n x = some k
  | 0, _, _, h1, _ => by simp [followN] at h1
  | n + 1, x, k, h1, hk => by
    unfold followN at h1 ⊢
    split at h1
    · rename_i h2
      have e := h x h2
      rw [opAt_D, e, ← opAt_D, if_pos h2, nxt_D, e, ← nxt_D]
      exact follow_agree h n _ k h1 hk
    · simp only [Option.some.injEq] at h1
      subst h1
      rw [if_neg hk]

/-! ### Selections -/
def isSel (g : List Ce) (i : Nat) : Prop := opAt g i = 6 ∨ opAt g i = 7
instance (g : List Ce) (i : Nat) : Decidable (isSel g i) := by unfold isSel; infer_instance
/-- the part that a kind of selection takes of the pair k -/
def partG (g : List Ce) (op : Int) (k : Nat) : Nat := if op = 6 then kidAt g k 0 else kidAt g k 1
structure Enabled (g : List Ce) (i k : Nat) : Prop where
  lt : i < g.length
  sel : isSel g i
  fol : followN g g.length (kidAt g i 0) = some k
  pair : opAt g k = 5
def selAt (g : List Ce) (i k : Nat) : List Ce := g.set i (indTo (partG g (opAt g i) k))
/-- reached from g0 by n selections -/
inductive SelR (g0 : List Ce) : List Ce → Nat → Prop
  | zero : SelR g0 g0 0
  | step {g : List Ce} {n i k : Nat} : SelR g0 g n → Enabled g i k → SelR g0 (selAt g i k) (n + 1)
def SelMax (g : List Ce) : Prop := ∀ i k, ¬ Enabled g i k

theorem isSel_ne11 {g : List Ce} {i : Nat} (h : isSel g i) : opAt g i ≠ 11 := by unfold isSel at h; omega
theorem isSel_lt {g : List Ce} {i : Nat} (h : isSel g i) : i < g.length := by
  rcases Nat.lt_or_ge i g.length with h1 | h1
  · exact h1
  · unfold isSel opAt at h
    rw [List.getD_eq_getElem?_getD, List.getElem?_eq_none h1] at h
    simp at h
theorem op_lt {g : List Ce} {k : Nat} {o : Int} (ho : o ≠ 0) (h : opAt g k = o) : k < g.length := by
  rcases Nat.lt_or_ge k g.length with h1 | h1
  · exact h1
  · unfold opAt at h
    rw [List.getD_eq_getElem?_getD, List.getElem?_eq_none h1] at h
    exact absurd h.symm ho
theorem part_lt {g : List Ce} {defs : Int} (hg : graphB g defs = true) {k : Nat} (h : opAt g k = 5) (op : Int) : partG g op k < g.length := by
  have hk := op_lt (by omega) h
  have h1 := kids_count hg k hk
  rw [opAt_at k hk] at h
  rw [h] at h1
  have e : cArity 5 = 2 := by decide
  unfold partG
  split
  · exact (kidAt_get hg k hk 0 (by omega)).2
  · exact (kidAt_get hg k hk 1 (by omega)).2
theorem selAt_len (g : List Ce) (i k : Nat) : (selAt g i k).length = g.length := by unfold selAt; rw [List.length_set]
theorem selAt_valid {g : List Ce} {defs : Int} (hg : graphB g defs = true) {i k : Nat} (h : opAt g k = 5) : graphB (selAt g i k) defs = true := by
  obtain ⟨h1, h2⟩ := graphB_iff.1 hg
  refine graphB_iff.2 ⟨by rw [selAt_len]; exact h1, ?_⟩
  rw [selAt_len]
  exact h2.set i _ (ind_fits (part_lt hg h _))
/-- how many selections there are -/
def selB (c : Ce) : Bool := c.op == 6 || c.op == 7
theorem isSel_B (g : List Ce) (i : Nat) : isSel g i ↔ selB (cellD g i) = true := by unfold isSel selB; rw [opAt_D]; simp
theorem count_set : ∀ (g : List Ce) (i : Nat) (c : Ce), i < g.length → selB (cellD g i) = true → selB c = false → (g.set i c).countP selB + 1 = g.countP selB
  | [], _, _, h, _, _ => by simp at h
  | a :: g, 0, c, _, h1, h2 => by
    have h1 : selB a = true := h1
    simp [List.countP_cons, h1, h2]
  | a :: g, i + 1, c, h, h1, h2 => by
    have ih := count_set g i c (by simpa using h) h1 h2
    simp only [List.set_cons_succ, List.countP_cons]
    omega
theorem selB_ind (k : Nat) : selB (indTo k) = false := rfl

/-- what holds of every graph that is reached -/
structure SelInv (g0 : List Ce) (defs : Int) (g : List Ce) (n : Nat) : Prop where
  len : g.length = g0.length
  ok : graphB g defs = true
  cnt : g.countP selB + n = g0.countP selB
  cell : ∀ i, cellD g i = cellD g0 i ∨ (isSel g0 i ∧ ∃ k, followN g g.length (kidAt g0 i 0) = some k ∧ opAt g k = 5 ∧ cellD g i = indTo (partG g (opAt g0 i) k))
theorem SelInv.keep {g0 g : List Ce} {defs : Int} {n x : Nat} (h : SelInv g0 defs g n) (hx : ¬ isSel g0 x) : cellD g x = cellD g0 x := (h.cell x).elim id fun h => absurd h.1 hx
theorem SelInv.same {g0 g : List Ce} {defs : Int} {n x : Nat} (h : SelInv g0 defs g n) (hx : isSel g x) : cellD g x = cellD g0 x := (h.cell x).elim id fun h => by
  obtain ⟨-, k, -, -, e⟩ := h
  rw [isSel_B, e] at hx
  cases hx
theorem selR_inv {g0 g : List Ce} {defs : Int} {n : Nat} (hg : graphB g0 defs = true) (h : SelR g0 g n) : SelInv g0 defs g n := by
  induction h with
  | zero => exact ⟨rfl, hg, rfl, fun i => Or.inl rfl⟩
  | @step g n i k h he ih =>
    have h11 : opAt g i ≠ 11 := isSel_ne11 he.sel
    have hki : k ≠ i := fun e => by have := he.sel; have := he.pair; subst e; unfold isSel at *; omega
    refine ⟨(selAt_len g i k).trans ih.len, selAt_valid ih.ok he.pair, ?_, fun j => ?_⟩
    · have := count_set g i (indTo (partG g (opAt g i) k)) he.lt ((isSel_B _ _).1 he.sel) (selB_ind _)
      have := ih.cnt
      unfold selAt
      omega
    · have hp : ∀ (x : Nat) (op : Int), opAt g x = 5 → partG (selAt g i k) op x = partG g op x ∧ opAt (selAt g i k) x = 5 := by
        intro x op hx
        have hxi : x ≠ i := fun e => by have := he.sel; subst e; unfold isSel at *; omega
        unfold partG selAt
        refine ⟨?_, by rw [opAt_D, cellD_ne _ _ _ hxi]; exact hx⟩
        simp only [kidAt_D, cellD_ne _ _ _ hxi]
      by_cases hji : j = i
      · subst hji
        have e0 := ih.same he.sel
        refine Or.inr ⟨by rw [isSel_B, ← e0, ← isSel_B]; exact he.sel, k, ?_, (hp k 0 he.pair).2, ?_⟩
        · rw [selAt_len, kidAt_D, ← e0, ← kidAt_D]
          exact follow_set h11 _ _ _ he.fol hki
        · rw [(hp k _ he.pair).1]
          unfold selAt
          rw [cellD_eq _ _ he.lt]
          congr 2
          rw [opAt_D, opAt_D, e0]
      · have e1 : cellD (selAt g i k) j = cellD g j := cellD_ne _ _ _ hji
        rw [e1]
        rcases ih.cell j with h1 | ⟨h1, m, h2, h3, h4⟩
        · exact Or.inl h1
        · have hmi : m ≠ i := fun e => by have := he.sel; subst e; unfold isSel at *; omega
          exact Or.inr ⟨h1, m, by rw [selAt_len]; exact follow_set h11 _ _ _ h2 hmi, (hp m 0 h3).2, by rw [(hp m _ h3).1]; exact h4⟩
/-- what one has changed, the other has changed to the same -/
theorem sel_agree {g0 a b : List Ce} {defs : Int} {n m : Nat} (hg : graphB g0 defs = true) (ha : SelR g0 a n) (hb : SelR g0 b m) (hm : SelMax b) : ∀ i, cellD a i = cellD g0 i ∨ cellD a i = cellD b i := by
  have hB := selR_inv hg hb
  induction ha with
  | zero => exact fun i => Or.inl rfl
  | @step g n i k h he ih =>
    have hA := selR_inv hg h
    intro j
    by_cases hji : j = i
    · subst hji
      refine Or.inr ?_
      have e0 := hA.same he.sel
      have hs0 : isSel g0 j := by rw [isSel_B, ← e0, ← isSel_B]; exact he.sel
      have eqc : ∀ x, ¬ isSel g x → opAt g x ≠ 11 ∨ opAt g x = 11 → opAt g x = 5 ∨ opAt g x = 11 → cellD b x = cellD g x := by
        intro x hx _ h5
        rcases ih x with h1 | h1
        · rw [h1]
          refine hB.keep fun hs => hx ?_
          rw [isSel_B, h1, ← isSel_B]; exact hs
        · exact h1.symm
      have hfb : followN b b.length (kidAt g0 j 0) = some k := by
        rw [hB.len, ← hA.len]
        refine follow_agree (a := g) (fun x hx => eqc x (by unfold isSel; omega) (Or.inr hx) (Or.inr hx)) _ _ _ ?_ ?_
        · rw [kidAt_D, ← e0, ← kidAt_D]; exact he.fol
        · have hp := he.pair
          rw [opAt_D, eqc k (by unfold isSel; omega) (Or.inl (by omega)) (Or.inl hp), ← opAt_D]; omega
      have hkb : cellD b k = cellD g k := by have hp := he.pair; exact eqc k (by unfold isSel; omega) (Or.inl (by omega)) (Or.inl hp)
      have hpk : opAt b k = 5 := by rw [opAt_D, hkb, ← opAt_D]; exact he.pair
      rcases hB.cell j with h1 | ⟨-, k', h2, h3, h4⟩
      · refine absurd ?_ (hm j k)
        refine ⟨by rw [hB.len, ← hA.len]; exact he.lt, by rw [isSel_B, h1, ← isSel_B]; exact hs0, ?_, hpk⟩
        rw [kidAt_D, h1, ← kidAt_D]; exact hfb
      · rw [hfb] at h2
        simp only [Option.some.injEq] at h2
        subst h2
        rw [h4]
        unfold selAt
        rw [cellD_eq _ _ he.lt]
        congr 1
        unfold partG
        rw [show opAt g0 j = opAt g j by rw [opAt_D, opAt_D, e0]]
        simp only [kidAt_D, hkb]
    · have e1 : cellD (selAt g i k) j = cellD g j := cellD_ne _ _ _ hji
      rw [e1]
      exact ih j
/-- in whichever order -/
theorem sel_unique {g0 a b : List Ce} {defs : Int} {n m : Nat} (hg : graphB g0 defs = true) (ha : SelR g0 a n) (hma : SelMax a) (hb : SelR g0 b m) (hmb : SelMax b) : a = b ∧ n = m := by
  have hA := selR_inv hg ha
  have hB := selR_inv hg hb
  have e : a = b := by
    refine cellD_ext (hA.len.trans hB.len.symm) fun i => ?_
    rcases sel_agree hg ha hb hmb i with h1 | h1
    · rcases sel_agree hg hb ha hma i with h2 | h2
      · rw [h1, h2]
      · exact h2.symm
    · exact h1
  subst e
  have h1 := hA.cnt
  have h2 := hB.cnt
  exact ⟨rfl, by omega⟩

/-! ### The worklist -/
structure WL (g : List Ce) (work : List Nat) (wt : Nat → List Nat) : Prop where
  all : ∀ i, isSel g i → i ∈ work ∨ (∃ f, isSel g f ∧ i ∈ wt f ∧ followN g g.length (kidAt g i 0) = some f) ∨ followN g g.length (kidAt g i 0) = none ∨ ∃ k, followN g g.length (kidAt g i 0) = some k ∧ opAt g k ≠ 5 ∧ ¬ isSel g k
  nd : work.Nodup
  wk : ∀ i ∈ work, isSel g i
  wnd : ∀ f, isSel g f → (wt f).Nodup
  wsel : ∀ f, isSel g f → ∀ i ∈ wt f, isSel g i ∧ i ∉ work
  dis : ∀ f f' i, isSel g f → isSel g f' → i ∈ wt f → i ∈ wt f' → f = f'
theorem WL.fin {g : List Ce} {wt : Nat → List Nat} (h : WL g [] wt) : SelMax g := by
  intro i k he
  have hf := he.fol
  have hp := he.pair
  rcases h.all i he.sel with h1 | ⟨f, h1, -, h3⟩ | h1 | ⟨k', h1, h2, -⟩
  · simp at h1
  · rw [hf] at h3; simp only [Option.some.injEq] at h3; subst h3; unfold isSel at h1; omega
  · rw [hf] at h1; cases h1
  · rw [hf] at h1; simp only [Option.some.injEq] at h1; subst h1; exact h2 hp
theorem WL.pop_mem {g : List Ce} {rest : List Nat} {i : Nat} {wt : Nat → List Nat} (h : WL g (rest ++ [i]) wt) : isSel g i ∧ i ∉ rest ∧ rest.Nodup := by
  have hn := h.nd
  rw [List.nodup_append] at hn
  exact ⟨h.wk i (by simp), fun hm => hn.2.2 i hm i (by simp) rfl, hn.1⟩
/-- a cell that no change can help any more -/
theorem WL.dead {g : List Ce} {rest : List Nat} {i : Nat} {wt : Nat → List Nat} (h : WL g (rest ++ [i]) wt) (hd : followN g g.length (kidAt g i 0) = none ∨ ∃ k, followN g g.length (kidAt g i 0) = some k ∧ opAt g k ≠ 5 ∧ ¬ isSel g k) : WL g rest wt := by
  obtain ⟨p1, p2, p3⟩ := h.pop_mem
  refine ⟨fun j hj => ?_, p3, fun j hj => h.wk j (by simp [hj]), h.wnd, fun f hf j hj => ⟨(h.wsel f hf j hj).1, fun hm => (h.wsel f hf j hj).2 (by simp [hm])⟩, h.dis⟩
  rcases h.all j hj with h1 | h1
  · rcases List.mem_append.1 h1 with h1 | h1
    · exact Or.inl h1
    · simp only [List.mem_singleton] at h1
      subst h1
      exact Or.inr (Or.inr hd)
  · exact Or.inr h1
/-- a cell that waits for another one -/
theorem WL.wait {g : List Ce} {rest : List Nat} {i k : Nat} {wt : Nat → List Nat} (h : WL g (rest ++ [i]) wt) (hf : followN g g.length (kidAt g i 0) = some k) (hk : isSel g k) : WL g rest (fun x => if x = k then wt k ++ [i] else wt x) := by
  obtain ⟨p1, p2, p3⟩ := h.pop_mem
  have hno : ∀ f, isSel g f → i ∉ wt f := fun f hf hm => (h.wsel f hf i hm).2 (by simp)
  have mem : ∀ x j, j ∈ (if x = k then wt k ++ [i] else wt x) → j ∈ wt x ∨ (x = k ∧ j = i) := by
    intro x j hj
    split at hj
    · rename_i e
      subst e
      rcases List.mem_append.1 hj with h1 | h1
      · exact Or.inl h1
      · simp only [List.mem_singleton] at h1; exact Or.inr ⟨rfl, h1⟩
    · exact Or.inl hj
  refine ⟨fun j hj => ?_, p3, fun j hj => h.wk j (by simp [hj]), fun f hf => ?_, fun f hf j hj => ?_, fun f f' j s1 s2 h1 h2 => ?_⟩
  · rcases h.all j hj with h1 | ⟨f, h1, h2, h3⟩ | h1
    · rcases List.mem_append.1 h1 with h1 | h1
      · exact Or.inl h1
      · simp only [List.mem_singleton] at h1
        subst h1
        exact Or.inr (Or.inl ⟨k, hk, by simp, hf⟩)
    · refine Or.inr (Or.inl ⟨f, h1, ?_, h3⟩)
      split
      · rename_i e; subst e; exact List.mem_append_left _ h2
      · exact h2
    · exact Or.inr (Or.inr h1)
  · show (if f = k then wt k ++ [i] else wt f).Nodup
    split
    · rw [List.nodup_append]
      exact ⟨h.wnd k hk, by simp, by intro a ha b hb; simp only [List.mem_singleton] at hb; subst hb; intro e; exact hno k hk (e ▸ ha)⟩
    · exact h.wnd f hf
  · rcases mem f j hj with h1 | ⟨rfl, rfl⟩
    · exact ⟨(h.wsel f hf j h1).1, fun hm => (h.wsel f hf j h1).2 (by simp [hm])⟩
    · exact ⟨p1, p2⟩
  · rcases mem f j h1 with a1 | ⟨rfl, rfl⟩
    · rcases mem f' j h2 with a2 | ⟨rfl, rfl⟩
      · exact h.dis f f' j s1 s2 a1 a2
      · exact absurd a1 (hno f s1)
    · rcases mem f' j h2 with a2 | ⟨rfl, -⟩
      · exact absurd a2 (hno f' s2)
      · rfl
/-- a selection is made: those that waited for it come back -/
theorem WL.make {g : List Ce} {rest : List Nat} {i k : Nat} {wt : Nat → List Nat} (h : WL g (rest ++ [i]) wt) (he : Enabled g i k) : WL (selAt g i k) (rest ++ wt i) wt := by
  obtain ⟨p1, p2, p3⟩ := h.pop_mem
  have h11 := isSel_ne11 p1
  have hci : ∀ j, j ≠ i → cellD (selAt g i k) j = cellD g j := fun j hj => cellD_ne _ _ _ hj
  have hii : ¬ isSel (selAt g i k) i := by rw [isSel_B]; unfold selAt; rw [cellD_eq _ _ he.lt]; simp [selB_ind]
  have hs : ∀ j, isSel (selAt g i k) j ↔ isSel g j ∧ j ≠ i := by
    intro j
    by_cases e : j = i
    · subst e; exact ⟨fun h => absurd h hii, fun h => absurd rfl h.2⟩
    · rw [isSel_B, hci j e, ← isSel_B]; exact ⟨fun h => ⟨h, e⟩, fun h => h.1⟩
  have hwi := h.wsel i p1
  have hno : i ∉ wt i := fun hm => (hwi i hm).2 (by simp)
  refine ⟨fun j hj => ?_, ?_, fun j hj => ?_, fun f hf => h.wnd f ((hs f).1 hf).1, fun f hf j hj => ?_, fun f f' j hf hf' => h.dis f f' j ((hs f).1 hf).1 ((hs f').1 hf').1⟩
  · obtain ⟨hj1, hj2⟩ := (hs j).1 hj
    have ek : kidAt (selAt g i k) j 0 = kidAt g j 0 := by rw [kidAt_D, hci j hj2, ← kidAt_D]
    rw [selAt_len, ek]
    rcases h.all j hj1 with h1 | ⟨f, h1, h2, h3⟩ | h1 | ⟨x, h1, h2, h3⟩
    · rcases List.mem_append.1 h1 with h1 | h1
      · exact Or.inl (List.mem_append_left _ h1)
      · simp only [List.mem_singleton] at h1; exact absurd h1 hj2
    · by_cases e : f = i
      · subst e; exact Or.inl (List.mem_append_right _ h2)
      · exact Or.inr (Or.inl ⟨f, (hs f).2 ⟨h1, e⟩, h2, follow_set h11 _ _ _ h3 e⟩)
    · exact Or.inr (Or.inr (Or.inl (follow_setn h11 _ _ h1)))
    · have hx : x ≠ i := fun e => h3 (e ▸ p1)
      exact Or.inr (Or.inr (Or.inr ⟨x, follow_set h11 _ _ _ h1 hx, by rw [opAt_D, hci x hx, ← opAt_D]; exact h2, fun h4 => h3 ((hs x).1 h4).1⟩))
  · rw [List.nodup_append]
    exact ⟨p3, h.wnd i p1, by intro a ha b hb e; subst e; exact (hwi a hb).2 (by simp [ha])⟩
  · rcases List.mem_append.1 hj with h1 | h1
    · exact (hs j).2 ⟨h.wk j (by simp [h1]), fun e => p2 (e ▸ h1)⟩
    · exact (hs j).2 ⟨(hwi j h1).1, fun e => hno (e ▸ h1)⟩
  · obtain ⟨f1, f2⟩ := (hs f).1 hf
    obtain ⟨a1, a2⟩ := h.wsel f f1 j hj
    refine ⟨(hs j).2 ⟨a1, fun e => ?_⟩, fun hm => ?_⟩
    · subst e; exact a2 (by simp)
    · rcases List.mem_append.1 hm with h1 | h1
      · exact a2 (by simp [h1])
      · exact f2 (h.dis f i j f1 p1 hj h1)
theorem WL.start {g : List Ce} {work : List Nat} (hn : work.Nodup) (h : ∀ i, i ∈ work ↔ isSel g i) : WL g work (fun _ => []) :=
  ⟨fun i hi => Or.inl ((h i).2 hi), hn, fun i hi => (h i).1 hi, fun _ _ => by simp, fun _ _ i hi => by simp at hi, fun _ _ i _ _ hi => by simp at hi⟩
theorem WL.len {g : List Ce} {work : List Nat} {wt : Nat → List Nat} (h : WL g work wt) : work.length ≤ g.length := nodup_len h.nd fun i hi => isSel_lt (h.wk i hi)
end Go.Proofs.YtiipcgnkfhjpeaaGreatDoor
/-
  PLAIN: roots of a graph; the marks of an order. No program is named here.
-/
namespace Go.Proofs.YtiipcgnkfhjpeaaGreatDoor
set_option linter.unusedVariables false
set_option linter.unusedSimpArgs false

/-- a graph and some of its cells -/
def rootB (g : List Ce) (rs : List Int) : Bool := graphB g 6 && (decide (rs.length ≤ 20) && rs.all (isAt g.length))
def natL (rs : List Int) : List Nat := rs.map Int.toNat
theorem natL_len (rs : List Int) : (natL rs).length = rs.length := by simp [natL]
theorem rootB_iff {g : List Ce} {rs : List Int} : rootB g rs = true ↔ graphB g 6 = true ∧ rs.length ≤ 20 ∧ rs.all (isAt g.length) = true := by unfold rootB; simp
theorem root_lt {g : List Ce} {rs : List Int} (h : rootB g rs = true) : ∀ x ∈ natL rs, x < g.length := by
  intro x hx
  have h3 := (rootB_iff.1 h).2.2
  simp only [natL, List.mem_map] at hx
  obtain ⟨a, ha, rfl⟩ := hx
  rw [List.all_eq_true] at h3
  have := h3 a ha
  simp only [isAt, decide_eq_true_eq] at this
  omega
theorem root_back {g : List Ce} {rs : List Int} (h : rootB g rs = true) : rs = (natL rs).map fun (a : Nat) => (a : Int) := by
  have h3 := (rootB_iff.1 h).2.2
  rw [List.all_eq_true] at h3
  unfold natL
  rw [List.map_map]
  conv => lhs; rw [← List.map_id rs]
  refine List.map_congr_left fun a ha => ?_
  have := h3 a ha
  simp only [isAt, decide_eq_true_eq] at this
  simp; omega
/-- is a cell in a list? -/
def memB (o : List Nat) (x : Nat) : Bool := decide (x ∈ o)
theorem memB_nil : memB [] = fun _ => false := by funext x; simp [memB]
theorem memB_yes {o : List Nat} {x : Nat} (h : memB o x = true) : visit o x = o := visit_in (by simpa [memB] using h)
theorem memB_no {o : List Nat} {x : Nat} (h : memB o x = false) : visit o x = o ++ [x] := visit_new (by simpa [memB] using h)
theorem memB_snoc (o : List Nat) (x : Nat) : memB (o ++ [x]) = setF (memB o) x := by
  funext y
  unfold setF memB
  by_cases e : y = x
  · simp [e]
  · simp [e]
/-- different cells of a graph -/
def Cs (n : Nat) (o : List Nat) : Prop := o.Nodup ∧ ∀ x ∈ o, x < n
theorem Cs.len {n : Nat} {o : List Nat} (h : Cs n o) : o.length ≤ n := nodup_len h.1 h.2
theorem Cs.nil (n : Nat) : Cs n [] := ⟨by simp, fun x hx => by simp at hx⟩
theorem Cs.visit {n : Nat} {o : List Nat} {x : Nat} (h : Cs n o) (hx : x < n) : Cs n (visit o x) := ⟨visit_nodup h.1, fun y hy => by
  rcases visit_of hy with h1 | rfl
  · exact h.2 y h1
  · exact hx⟩
theorem OrdRel.cs {g : List Ce} {roots : List Nat} {i : Nat} {out : List Nat} (h : OrdRel g roots i out) : Cs g.length out := ⟨h.nd, h.lt⟩
/-- the place of a copy, or -1 -/
def placeV (o : List Nat) (x : Nat) : Int := if x ∈ o then (posN o x : Int) else -1
theorem placeV_nil : placeV [] = fun _ => -1 := by funext x; simp [placeV]
theorem placeV_snoc {o : List Nat} {x : Nat} (h : x ∉ o) (y : Nat) : placeV (o ++ [x]) y = if y = x then (o.length : Int) else placeV o y := by
  unfold placeV
  by_cases e : y = x
  · subst e
    rw [if_pos (by simp), if_pos rfl, posN_snoc o y h]
  · rw [if_neg e]
    by_cases hy : y ∈ o
    · rw [if_pos (by simp [hy]), if_pos hy, posN_app _ _ _ hy]
    · rw [if_neg (by simp [hy, e]), if_neg hy]
theorem placeV_in {o : List Nat} {x : Nat} (h : x ∈ o) : placeV o x = (posN o x : Int) := if_pos h
theorem take_not {o : List Nat} (hn : o.Nodup) {i x : Nat} (h : o[i]? = some x) : x ∉ o.take i := by
  intro hx
  obtain ⟨j, hj, e⟩ := List.getElem_of_mem hx
  rw [List.length_take] at hj
  rw [List.getElem_take] at e
  have hi : i < o.length := (List.getElem?_eq_some_iff.1 h).1
  have e2 : o[i] = x := (List.getElem?_eq_some_iff.1 h).2
  have := posN_at o j (by omega) hn
  rw [e, ← e2, posN_at o i hi hn] at this
  omega
end Go.Proofs.YtiipcgnkfhjpeaaGreatDoor
/-
  PLAIN: what CopyGraph, CopyOrder and CollectGraph answer. No program is named here.
-/
namespace Go.Proofs.YtiipcgnkfhjpeaaGreatDoor
set_option linter.unusedVariables false
set_option linter.unusedSimpArgs false

theorem order_closed {g : List Ce} {roots : List Nat} (hg : graphB g 6 = true) (hr : ∀ x ∈ roots, x < g.length) : ∀ a ∈ orderG g roots, ∀ k ∈ kidsN g a, k ∈ orderG g roots := by
  obtain ⟨i, h, hi⟩ := order_rel hg hr
  intro a ha k hk
  obtain ⟨j, hj, rfl⟩ := List.getElem_of_mem ha
  refine h.cl j (by omega) k ?_
  rw [getD_at _ _ _ hj]; exact hk
theorem order_cs {g : List Ce} {roots : List Nat} (hg : graphB g 6 = true) (hr : ∀ x ∈ roots, x < g.length) : Cs g.length (orderG g roots) := by
  obtain ⟨i, h, hi⟩ := order_rel hg hr
  exact h.cs
theorem order_root {g : List Ce} {roots : List Nat} (hg : graphB g 6 = true) (hr : ∀ x ∈ roots, x < g.length) : ∀ x ∈ roots, x ∈ orderG g roots := by
  obtain ⟨i, h, hi⟩ := order_rel hg hr
  exact h.rt
/-- what CopyGraph answers, but for whether -/
def copyO (g : List Ce) (rs : List Int) : List Ce × List Nat := if rootB g rs = true then (copyG g (natL rs), topsG g (natL rs)) else ([], [])
theorem copyO_no {g : List Ce} {rs : List Int} (h : rootB g rs = false) : copyO g rs = ([], []) := by unfold copyO; rw [if_neg (by rw [h]; simp)]
theorem copyO_yes {g : List Ce} {rs : List Int} (h : rootB g rs = true) : copyO g rs = (copyG g (natL rs), topsG g (natL rs)) := by unfold copyO; rw [if_pos h]
/-! ### Past indirections -/
def skipN (g : List Ce) (a : Nat) : Nat := (followN g g.length a).getD a
def shortC (g : List Ce) (c : Ce) : Ce := ⟨c.op, c.num, (c.kids.map Int.toNat).map fun k => (skipN g k : Int)⟩
def shortG (g : List Ce) : List Ce := g.map (shortC g)
theorem skip_lt {g : List Ce} {defs : Int} (h : graphB g defs = true) {a : Nat} (ha : a < g.length) : skipN g a < g.length := by
  unfold skipN
  cases hf : followN g g.length a with
  | none => exact ha
  | some b => exact (followN_lt h _ a b ha hf).1
theorem shortG_len (g : List Ce) : (shortG g).length = g.length := by simp [shortG]
theorem shortG_at (g : List Ce) (i : Nat) (h : i < g.length) : (shortG g)[i]'(by rw [shortG_len]; exact h) = shortC g g[i] := by simp [shortG]
theorem shortG_valid {g : List Ce} {defs : Int} (h : graphB g defs = true) : graphB (shortG g) defs = true := by
  have h' := h
  unfold graphB at h ⊢
  simp only [Bool.and_eq_true, List.all_eq_true, decide_eq_true_eq] at h ⊢
  rw [shortG_len]
  refine ⟨h.1, fun c hc => ?_⟩
  obtain ⟨i, hi, rfl⟩ := List.getElem_of_mem hc
  rw [shortG_len] at hi
  rw [shortG_at g i hi]
  have hc := graphB_cell h' i hi
  unfold cellB fitsB shortC at *
  simp only [Bool.and_eq_true, decide_eq_true_eq, List.length_map] at hc ⊢
  refine ⟨hc.1, ?_⟩
  rw [List.all_eq_true]
  intro x hx
  simp only [List.mem_map] at hx
  obtain ⟨k, ⟨y, hy, rfl⟩, rfl⟩ := hx
  have hy2 := (kids_graph h' i hi).2 y hy
  have := skip_lt h' (a := y.toNat) (by omega)
  simp only [isAt, decide_eq_true_eq]
  omega
/-- what CollectGraph answers -/
def collO (g : List Ce) (rs : List Int) : List Ce × List Nat := if rootB g rs = true then (copyG (shortG g) ((natL rs).map (skipN g)), topsG (shortG g) ((natL rs).map (skipN g))) else ([], [])
theorem collO_no {g : List Ce} {rs : List Int} (h : rootB g rs = false) : collO g rs = ([], []) := by unfold collO; rw [if_neg (by rw [h]; simp)]
theorem collO_yes {g : List Ce} {rs : List Int} (h : rootB g rs = true) : collO g rs = (copyG (shortG g) ((natL rs).map (skipN g)), topsG (shortG g) ((natL rs).map (skipN g))) := by unfold collO; rw [if_pos h]
/-! ### How large -/
theorem kidsSum_le3 : ∀ (g : List Ce), (∀ c ∈ g, c.kids.length ≤ 3) → sumK g ≤ 3 * g.length
  | [], _ => by simp [sumK]
  | c :: g, h => by
    have h1 := h c (List.mem_cons_self ..)
    have h2 := kidsSum_le3 g fun d hd => h d (List.mem_cons_of_mem _ hd)
    have h3 : sumK (c :: g) = c.kids.length + sumK g := by simp [sumK]
    rw [h3]
    simp only [List.length_cons]
    omega
end Go.Proofs.YtiipcgnkfhjpeaaGreatDoor
/-
  PLAIN: what SelectGraph and TidyGraph answer. No program is named here.
-/
namespace Go.Proofs.YtiipcgnkfhjpeaaGreatDoor
set_option linter.unusedVariables false
set_option linter.unusedSimpArgs false

open Classical in
/-- the graph in the end, and how many selections were made -/
noncomputable def selRes (g : List Ce) : List Ce × Nat := if h : ∃ p : List Ce × Nat, SelR g p.1 p.2 ∧ SelMax p.1 then h.choose else (g, 0)
theorem selRes_eq {g G : List Ce} {defs : Int} {n : Nat} (hg : graphB g defs = true) (h : SelR g G n) (hm : SelMax G) : selRes g = (G, n) := by
  have hx : ∃ p : List Ce × Nat, SelR g p.1 p.2 ∧ SelMax p.1 := ⟨(G, n), h, hm⟩
  unfold selRes
  rw [dif_pos hx]
  obtain ⟨h1, h2⟩ := hx.choose_spec
  obtain ⟨e1, e2⟩ := sel_unique hg h1 h2 h hm
  exact Prod.ext e1 e2
theorem sel_ends {g : List Ce} {defs : Int} (hg : graphB g defs = true) : ∃ G n, SelR g G n ∧ SelMax G := by
  have key : ∀ c G n, SelR g G n → G.countP selB = c → ∃ G n, SelR g G n ∧ SelMax G := by
    intro c
    induction c using Nat.strongRecOn with
    | ind c ih =>
      intro G n h hc
      by_cases hm : SelMax G
      · exact ⟨G, n, h, hm⟩
      · unfold SelMax at hm
        have hm : ∃ i k, Enabled G i k := by
          refine Classical.byContradiction fun hn => hm fun i k he => hn ⟨i, k, he⟩
        obtain ⟨i, k, he⟩ := hm
        have h1 := (selR_inv hg h).cnt
        have h2 := (selR_inv hg (h.step he)).cnt
        exact ih _ (by omega) _ _ (h.step he) rfl
  exact key _ g 0 .zero rfl
theorem selRes_rel {g : List Ce} {defs : Int} (hg : graphB g defs = true) : SelR g (selRes g).1 (selRes g).2 := by
  obtain ⟨G, n, h, hm⟩ := sel_ends hg
  rw [selRes_eq hg h hm]; exact h
theorem selRes_ok {g : List Ce} {defs : Int} (hg : graphB g defs = true) : graphB (selRes g).1 defs = true ∧ (selRes g).1.length = g.length ∧ (selRes g).2 ≤ g.length := by
  have h := selR_inv hg (selRes_rel hg)
  refine ⟨h.ok, h.len, ?_⟩
  have := h.cnt
  have : g.countP selB ≤ g.length := List.countP_le_length
  omega
/-- what SelectGraph answers, but for whether -/
noncomputable def selO (g : List Ce) : List Ce × Nat := if graphB g 6 = true then selRes g else ([], 0)
theorem selO_no {g : List Ce} (h : graphB g 6 = false) : selO g = ([], 0) := by unfold selO; rw [if_neg (by rw [h]; simp)]
theorem selO_yes {g : List Ce} (h : graphB g 6 = true) : selO g = selRes g := by unfold selO; rw [if_pos h]
theorem rootB_sel {g : List Ce} (h : graphB g 6 = true) (rs : List Int) : rootB (selRes g).1 rs = rootB g rs := by
  obtain ⟨h1, h2, -⟩ := selRes_ok h
  unfold rootB; rw [h1, h2, h]
/-- what TidyGraph answers, but for whether -/
noncomputable def tidyO (g : List Ce) (rs : List Int) : List Ce × List Nat := if rootB g rs = true then collO (selRes g).1 rs else ([], [])
theorem tidyO_no {g : List Ce} {rs : List Int} (h : rootB g rs = false) : tidyO g rs = ([], []) := by unfold tidyO; rw [if_neg (by rw [h]; simp)]
theorem tidyO_yes {g : List Ce} {rs : List Int} (h : rootB g rs = true) : tidyO g rs = collO (selRes g).1 rs := by unfold tidyO; rw [if_pos h]
theorem tidyO_graph {g : List Ce} {rs : List Int} (h : graphB g 6 = true) : tidyO g rs = collO (selRes g).1 rs := by
  cases hr : rootB g rs with
  | true => exact tidyO_yes hr
  | false => rw [tidyO_no hr, collO_no (by rw [rootB_sel h, hr])]
end Go.Proofs.YtiipcgnkfhjpeaaGreatDoor
/-
  PLAIN: the expression for which a cell stands, read with a budget of nodes and of depth. No program is named here.
-/
namespace Go.Proofs.YtiipcgnkfhjpeaaGreatDoor
set_option linter.unusedVariables false
set_option linter.unusedSimpArgs false

end Go.Proofs.YtiipcgnkfhjpeaaGreatDoor

/-
  PLAIN: the expression for which a cell stands, read with a budget of nodes and of depth. No program is named here.
-/
import Derived.Test.YticoegjackgldabReach
namespace Go.Proofs.Yticoegjackgldab
set_option linter.unusedVariables false
set_option linter.unusedSimpArgs false

/-- the trees of a list of cells, one behind the other, with what is left of the budget -/
def readKids (f : Nat → Nat → Option (Tr × Nat)) : List Nat → Nat → Option (List Tr × Nat)
  | [], l => some ([], l)
  | k :: ks, l => match f k l with
    | none => none
    | some (t, l') => match readKids f ks l' with
      | none => none
      | some (ts, l'') => some (t :: ts, l'')
def readT (g : List Ce) : Nat → Nat → Nat → Option (Tr × Nat)
  | 0, _, _ => none
  | d + 1, a, l => match followN g g.length a with
    | none => none
    | some b => match l with
      | 0 => none
      | l + 1 => match readKids (readT g d) (kidsN g b) l with
        | none => none
        | some (ts, l') => some (.node (g.getD b ⟨0, 0, []⟩).op (g.getD b ⟨0, 0, []⟩).num ts, l')
theorem readKids_snoc (f : Nat → Nat → Option (Tr × Nat)) : ∀ (ks : List Nat) (k l : Nat), readKids f (ks ++ [k]) l = match readKids f ks l with
    | none => none
    | some (ts, l') => match f k l' with
      | none => none
      | some (t, l'') => some (ts ++ [t], l'')
  | [], k, l => by
    simp only [List.nil_append, readKids]
  | x :: ks, k, l => by
    simp only [List.cons_append, readKids]
    cases f x l with
    | none => rfl
    | some p =>
      obtain ⟨t, l'⟩ := p
      simp only [readKids_snoc f ks k l']
      cases readKids f ks l' with
      | none => rfl
      | some q =>
        obtain ⟨ts, l2⟩ := q
        simp only
        cases f k l2 with
        | none => rfl
        | some r => obtain ⟨t2, l3⟩ := r; rfl
theorem readKids_some_snoc {f : Nat → Nat → Option (Tr × Nat)} {ks : List Nat} {k l l' l'' : Nat} {ts : List Tr} {t : Tr} (h : readKids f ks l = some (ts, l')) (h' : f k l' = some (t, l'')) : readKids f (ks ++ [k]) l = some (ts ++ [t], l'') := by
  rw [readKids_snoc, h]; simp only [h']
theorem readKids_none_snoc {f : Nat → Nat → Option (Tr × Nat)} {ks : List Nat} {k l l' : Nat} {ts : List Tr} (h : readKids f ks l = some (ts, l')) (h' : f k l' = none) : readKids f (ks ++ [k]) l = none := by
  rw [readKids_snoc, h]; simp only [h']
theorem readKids_none_append {f : Nat → Nat → Option (Tr × Nat)} : ∀ (ks js : List Nat) (l : Nat), readKids f ks l = none → readKids f (ks ++ js) l = none
  | [], _, _, h => by simp [readKids] at h
  | x :: ks, js, l, h => by
    simp only [List.cons_append, readKids] at h ⊢
    cases hx : f x l with
    | none => rfl
    | some p =>
      obtain ⟨t, l'⟩ := p
      rw [hx] at h
      simp only at h ⊢
      cases hk : readKids f ks l' with
      | none => rw [readKids_none_append ks js l' hk]
      | some q => rw [hk] at h; simp at h
theorem readKids_none_take {f : Nat → Nat → Option (Tr × Nat)} {ks : List Nat} {j l : Nat} (h : readKids f (ks.take j) l = none) : readKids f ks l = none := by
  have := readKids_none_append (ks.take j) (ks.drop j) l h
  rwa [List.take_append_drop] at this
theorem readKids_len {f : Nat → Nat → Option (Tr × Nat)} : ∀ (ks : List Nat) (l : Nat) (ts : List Tr) (l' : Nat), readKids f ks l = some (ts, l') → ts.length = ks.length
  | [], _, _, _, h => by simp [readKids] at h; obtain ⟨rfl, -⟩ := h; rfl
  | x :: ks, l, ts, l', h => by
    simp only [readKids] at h
    cases hx : f x l with
    | none => rw [hx] at h; simp at h
    | some p =>
      obtain ⟨t, l1⟩ := p
      rw [hx] at h
      simp only at h
      cases hk : readKids f ks l1 with
      | none => rw [hk] at h; simp at h
      | some q =>
        obtain ⟨us, l2⟩ := q
        rw [hk] at h
        simp only [Option.some.injEq, Prod.mk.injEq] at h
        obtain ⟨rfl, -⟩ := h
        simp [readKids_len ks l1 us l2 hk]
theorem readKids_left {f : Nat → Nat → Option (Tr × Nat)} (hf : ∀ k l t l', f k l = some (t, l') → l' ≤ l) : ∀ (ks : List Nat) (l : Nat) (ts : List Tr) (l' : Nat), readKids f ks l = some (ts, l') → l' ≤ l
  | [], _, _, _, h => by simp [readKids] at h; omega
  | x :: ks, l, ts, l', h => by
    simp only [readKids] at h
    cases hx : f x l with
    | none => rw [hx] at h; simp at h
    | some p =>
      obtain ⟨t, l1⟩ := p
      rw [hx] at h
      simp only at h
      cases hk : readKids f ks l1 with
      | none => rw [hk] at h; simp at h
      | some q =>
        obtain ⟨us, l2⟩ := q
        rw [hk] at h
        simp only [Option.some.injEq, Prod.mk.injEq] at h
        have := hf x l t l1 hx
        have := readKids_left hf ks l1 us l2 hk
        omega
theorem readT_left (g : List Ce) : ∀ (d a l : Nat) (t : Tr) (l' : Nat), readT g d a l = some (t, l') → l' ≤ l
  | 0, _, _, _, _, h => by simp [readT] at h
  | d + 1, a, l, t, l', h => by
    unfold readT at h
    cases hf : followN g g.length a with
    | none => rw [hf] at h; simp at h
    | some b =>
      rw [hf] at h
      cases l with
      | zero => simp at h
      | succ l =>
        simp only at h
        cases hk : readKids (readT g d) (kidsN g b) l with
        | none => rw [hk] at h; simp at h
        | some q =>
          obtain ⟨ts, l2⟩ := q
          rw [hk] at h
          simp only [Option.some.injEq, Prod.mk.injEq] at h
          have := readKids_left (fun k l t l' => readT_left g d k l t l') (kidsN g b) l ts l2 hk
          omega
theorem readT_fol {g : List Ce} {d a l : Nat} (h : followN g g.length a = none) : readT g (d + 1) a l = none := by unfold readT; rw [h]
theorem readT_zero {g : List Ce} {d a : Nat} : readT g (d + 1) a 0 = none := by unfold readT; cases followN g g.length a <;> rfl
theorem readT_bad {g : List Ce} {d a b l : Nat} (h : followN g g.length a = some b) (hk : readKids (readT g d) (kidsN g b) l = none) : readT g (d + 1) a (l + 1) = none := by unfold readT; rw [h]; simp only [hk]
theorem readT_ok {g : List Ce} {d a b l l' : Nat} {ts : List Tr} (hb : b < g.length) (h : followN g g.length a = some b) (hk : readKids (readT g d) (kidsN g b) l = some (ts, l')) : readT g (d + 1) a (l + 1) = some (.node g[b].op g[b].num ts, l') := by
  unfold readT; rw [h]; simp only [hk, getD_at _ _ _ hb]
theorem readKids_sz {f : Nat → Nat → Option (Tr × Nat)} (hf : ∀ k l t l', f k l = some (t, l') → l' + 1 + szT t ≤ l) : ∀ (ks : List Nat) (l : Nat) (ts : List Tr) (l' : Nat), readKids f ks l = some (ts, l') → l' + szL ts ≤ l
  | [], _, _, _, h => by simp [readKids] at h; obtain ⟨rfl, rfl⟩ := h; simp [szL]
  | x :: ks, l, ts, l', h => by
    simp only [readKids] at h
    cases hx : f x l with
    | none => rw [hx] at h; simp at h
    | some p =>
      obtain ⟨t, l1⟩ := p
      rw [hx] at h
      simp only at h
      cases hk : readKids f ks l1 with
      | none => rw [hk] at h; simp at h
      | some q =>
        obtain ⟨us, l2⟩ := q
        rw [hk] at h
        simp only [Option.some.injEq, Prod.mk.injEq] at h
        obtain ⟨rfl, rfl⟩ := h
        have := hf x l t l1 hx
        have := readKids_sz hf ks l1 us l2 hk
        simp only [szL]
        omega
theorem readT_sz (g : List Ce) : ∀ (d a l : Nat) (t : Tr) (l' : Nat), readT g d a l = some (t, l') → l' + 1 + szT t ≤ l
  | 0, _, _, _, _, h => by simp [readT] at h
  | d + 1, a, l, t, l', h => by
    unfold readT at h
    cases hf : followN g g.length a with
    | none => rw [hf] at h; simp at h
    | some b =>
      rw [hf] at h
      cases l with
      | zero => simp at h
      | succ l =>
        simp only at h
        cases hk : readKids (readT g d) (kidsN g b) l with
        | none => rw [hk] at h; simp at h
        | some q =>
          obtain ⟨ts, l2⟩ := q
          rw [hk] at h
          simp only [Option.some.injEq, Prod.mk.injEq] at h
          obtain ⟨rfl, rfl⟩ := h
          have := readKids_sz (fun k l t l' => readT_sz g d k l t l') (kidsN g b) l ts l2 hk
          rw [szT_eq]
          simp only [Tr.kids_node]
          omega
end Go.Proofs.Yticoegjackgldab

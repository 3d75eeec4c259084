/-
  PLAIN: a step leaves a graph that is valid for the program. No program is named here.
-/
import Derived.Test.YtiipcgnkfhjpeaaGreatDoorMgExactEvalRun13
import Derived.Test.YtiipcgnkfhjpeaaGreatDoorMgExactEvalRun5
namespace Go.Proofs.YtiipcgnkfhjpeaaGreatDoor
set_option linter.unusedVariables false
set_option linter.unusedSimpArgs false

/-- cells whose operands are below N -/
def GOk (defs : Int) (N : Nat) (g : List Ce) : Prop := ∀ c ∈ g, fitsB defs c = true ∧ ∀ k ∈ c.kids, 0 ≤ k ∧ k < (N : Int)
theorem GOk.mono {defs : Int} {N M : Nat} {g : List Ce} (h : GOk defs N g) (hm : N ≤ M) : GOk defs M g := fun c hc => ⟨(h c hc).1, fun k hk => by have := (h c hc).2 k hk; omega⟩
theorem graphB_iff {g : List Ce} {defs : Int} : graphB g defs = true ↔ ((g.length : Int) ≤ 400 ∧ 0 ≤ defs ∧ defs ≤ 6) ∧ GOk defs g.length g := by
  unfold graphB GOk cellB
  simp only [Bool.and_eq_true, decide_eq_true_eq, List.all_eq_true, isAt]
theorem own_novar {op n vars defs : Int} (h : op ≠ 1) (ho : ownB op n vars defs = true) : ownB op n 0 defs = true := by
  unfold ownB at ho ⊢
  rw [if_neg h] at ho ⊢
  exact ho
mutual
theorem addT_ok {defs : Int} {args : List Nat} : ∀ (d : Nat) (t : Tr) (g : List Ce), GOk defs g.length g → (∀ x ∈ args, x < g.length) → shB args.length defs d t = true → GOk defs (addT args t g).1.length (addT args t g).1 ∧ (addT args t g).2 < (addT args t g).1.length
  | 0, t, g, _, _, h => by simp [shB] at h
  | d + 1, .node op n ks, g, hg, ha, h => by
    simp only [shB, Bool.and_eq_true, decide_eq_true_eq, List.all_eq_true, Tr.kids_node, Tr.op_node, Tr.num_node] at h
    obtain ⟨⟨h1, h2⟩, h3⟩ := h
    by_cases hop : op = 1
    · rw [addT_var (t := .node op n ks) g hop]
      refine ⟨hg, ?_⟩
      unfold ownB at h2
      rw [if_pos hop] at h2
      simp only [decide_eq_true_eq] at h2
      have hlt : n.toNat < args.length := by omega
      show args.getD n.toNat 0 < g.length
      rw [getD_at _ _ _ hlt]
      exact ha _ (List.getElem_mem hlt)
    · obtain ⟨k1, k2⟩ := addL_ok d ks g hg ha h3
      have hl := addL_length args ks g
      rw [addT_other (t := .node op n ks) g hop]
      simp only [Tr.op_node, Tr.num_node, Tr.kids_node]
      refine ⟨fun c hc => ?_, by simp⟩
      rw [List.length_append, List.length_cons, List.length_nil]
      rcases List.mem_append.1 hc with hc | hc
      · exact ⟨(k1 c hc).1, fun k hk => by have := (k1 c hc).2 k hk; omega⟩
      · simp only [List.mem_singleton] at hc
        subst hc
        refine ⟨?_, fun k hk => ?_⟩
        · unfold fitsB
          simp only [Bool.and_eq_true, decide_eq_true_eq, List.length_map, hl]
          refine ⟨?_, own_novar hop h2⟩
          have h11 : op ≠ 11 := fun e => by subst e; simp [arity] at h1
          unfold cArity
          rw [if_neg h11]
          exact of_decide_eq_true h1
        · simp only [List.mem_map] at hk
          obtain ⟨x, hx, rfl⟩ := hk
          have := k2 x hx
          omega
theorem addL_ok {defs : Int} {args : List Nat} : ∀ (d : Nat) (ts : List Tr) (g : List Ce), GOk defs g.length g → (∀ x ∈ args, x < g.length) → (∀ t ∈ ts, shB args.length defs d t = true) → GOk defs (addL args ts g).1.length (addL args ts g).1 ∧ ∀ k ∈ (addL args ts g).2, k < (addL args ts g).1.length
  | d, [], g, hg, _, _ => by simp only [addL]; exact ⟨hg, by simp⟩
  | d, t :: ts, g, hg, ha, h => by
    obtain ⟨k1, k2⟩ := addT_ok d t g hg ha (h t (List.mem_cons_self ..))
    have hs := (addT_size args t g).1
    obtain ⟨m1, m2⟩ := addL_ok d ts (addT args t g).1 k1 (fun x hx => Nat.lt_of_lt_of_le (ha x hx) hs) fun t' ht' => h t' (List.mem_cons_of_mem _ ht')
    have hs2 := (addL_size args ts (addT args t g).1).1
    simp only [addL]
    refine ⟨m1, fun k hk => ?_⟩
    rcases List.mem_cons.1 hk with rfl | hk
    · omega
    · exact m2 k hk
end
theorem GOk.set {defs : Int} {N : Nat} {g : List Ce} (h : GOk defs N g) (i : Nat) (c : Ce) (hc : fitsB defs c = true ∧ ∀ k ∈ c.kids, 0 ≤ k ∧ k < (N : Int)) : GOk defs N (g.set i c) := by
  intro d hd
  rcases List.mem_or_eq_of_mem_set hd with hd | rfl
  · exact h d hd
  · exact hc
theorem ind_fits {defs : Int} {N k : Nat} (hk : k < N) : fitsB defs (indTo k) = true ∧ ∀ x ∈ (indTo k).kids, 0 ≤ x ∧ x < (N : Int) := by
  refine ⟨?_, fun x hx => ?_⟩
  · unfold fitsB indTo cArity ownB; simp
  · unfold indTo at hx; simp at hx; subst hx; omega
theorem num_fits {defs : Int} {N : Nat} {n : Int} (h0 : 0 ≤ n) (h1 : n ≤ 999) : fitsB defs (numC n) = true ∧ ∀ x ∈ (numC n).kids, 0 ≤ x ∧ x < (N : Int) := by
  refine ⟨?_, fun x hx => ?_⟩
  · unfold fitsB numC cArity arity ownB; simp; omega
  · unfold numC at hx; simp at hx
theorem numberOf_range (op a b : Int) : 0 ≤ numberOf op a b ∧ numberOf op a b ≤ 999 := by unfold numberOf; split <;> omega
theorem kids_op {g : List Ce} {defs : Int} (hg : graphB g defs = true) (f : Nat) (hf : f < g.length) : (g[f].kids.length : Int) = cArity (opAt g f) := by rw [opAt_at f hf]; exact kids_count hg f hf
theorem kidAt_lt {g : List Ce} {defs : Int} (hg : graphB g defs = true) (f j : Nat) (hf : f < g.length) (h : (j : Int) < cArity (opAt g f)) : kidAt g f j < g.length := by
  have h1 := kids_op hg f hf
  exact (kidAt_get hg f hf j (by omega)).2
theorem argsL_lt {g : List Ce} {defs : Int} (hg : graphB g defs = true) {l : List Nat} (h : ∀ k ∈ l, k < g.length ∧ opAt g k = 4) : ∀ x ∈ argsL g l, x < g.length := by
  intro x hx
  unfold argsL at hx
  simp only [List.mem_reverse, List.mem_map] at hx
  obtain ⟨a, ha, rfl⟩ := hx
  have h1 := h a ha
  exact kidAt_lt hg a 1 h1.1 (by rw [h1.2]; decide)
theorem bodyAt_at (ds : List Df) (n : Nat) (h : n < ds.length) : bodyAt ds (n : Int) = ds[n].2 := by unfold bodyAt; rw [Int.toNat_natCast, getD_at _ _ _ h]
theorem prog_body {ds : List Df} (h : progB ds = true) (n : Nat) (hn : n < ds.length) : validB ds[n].2 ds[n].1 ds.length = true := by
  unfold progB at h
  simp only [Bool.and_eq_true, List.all_eq_true] at h
  exact h.2 _ (List.getElem_mem hn)
/-- the parts of a call that is ready -/
theorem call_parts {ds : List Df} {g : List Ce} (hg : graphB g ds.length = true) (hp : progB ds = true) {at' f n : Nat} {l : List Nat} (ha : at' < g.length) (hs : spine g at' = some (f, l)) (hn : numAt g f = (n : Int)) (hnl : n < ds.length) (hl : ds[n].1 = (l.length : Int)) :
    callR ds g at' = addT (argsL g l) ds[n].2 g ∧ (argsL g l).length = l.length ∧ shB (argsL g l).length ds.length 16 ds[n].2 = true ∧ 1 + szT ds[n].2 ≤ 60 ∧ l.length ≤ 4 ∧ (∀ x ∈ argsL g l, x < g.length) := by
  have hv := prog_body hp n hnl
  have hlen : (argsL g l).length = l.length := by unfold argsL; simp
  have hok := spine_ok hg ha hs
  unfold validB at hv
  simp only [Bool.and_eq_true, decide_eq_true_eq] at hv
  refine ⟨?_, hlen, by rw [hlen, ← hl]; exact hv.2.1, hv.2.2, by omega, argsL_lt hg hok.2.2.2.1⟩
  unfold callR
  rw [hs]
  show addT (argsL g l) (bodyAt ds (numAt g f)) g = _
  rw [hn, bodyAt_at ds n hnl]
theorem graphB_set {g : List Ce} {defs : Int} (hg : graphB g defs = true) (i : Nat) (c : Ce) (hc : fitsB defs c = true ∧ ∀ k ∈ c.kids, 0 ≤ k ∧ k < (g.length : Int)) : graphB (g.set i c) defs = true := by
  rw [graphB_iff] at hg ⊢
  rw [List.length_set]
  exact ⟨hg.1, hg.2.set i c hc⟩
theorem opCell_fits {ds : List Df} {g : List Ce} (hg : graphB g ds.length = true) {at' : Nat} (ha : at' < g.length) (h : OpReady g at') : fitsB ds.length (opCell g at') = true ∧ ∀ k ∈ (opCell g at').kids, 0 ≤ k ∧ k < (g.length : Int) := by
  unfold opCell
  rcases h with ⟨h67, b, hb, hb5⟩ | ⟨h10, b, hb, hb2⟩ | ⟨h89, ⟨b, hb, hb2⟩, b', hb', hb2'⟩
  · rw [folAt_some hb]
    have hk0 : kidAt g at' 0 < g.length := kidAt_lt hg at' 0 ha (by rcases h67 with h | h <;> rw [h] <;> decide)
    have hbl := (followN_lt hg _ _ _ hk0 hb).1
    have e0 : kidAt g b 0 < g.length := kidAt_lt hg b 0 hbl (by rw [hb5]; decide)
    have e1 : kidAt g b 1 < g.length := kidAt_lt hg b 1 hbl (by rw [hb5]; decide)
    split
    · exact ind_fits e0
    · rw [if_pos (by omega)]; exact ind_fits e1
  · rw [if_neg (by omega), if_neg (by omega), if_pos h10]
    refine ind_fits ?_
    split
    · exact kidAt_lt hg at' 1 ha (by rw [h10]; decide)
    · exact kidAt_lt hg at' 2 ha (by rw [h10]; decide)
  · rw [if_neg (by omega), if_neg (by omega), if_neg (by omega)]
    have := numberOf_range (opAt g at') (numAt g (folAt g (kidAt g at' 0))) (numAt g (folAt g (kidAt g at' 1)))
    exact num_fits this.1 this.2
theorem ready_op {ds : List Df} {g : List Ce} {at' : Nat} (h : OpReady g at') : ¬ (opAt g at' = 3 ∨ opAt g at' = 4) := by
  rcases h with ⟨h, -⟩ | ⟨h, -⟩ | ⟨h, -⟩ <;> omega
theorem changeG_valid {ds : List Df} {g : List Ce} (hg : graphB g ds.length = true) (hp : progB ds = true) {at' : Nat} (h : Ready ds g at') : graphB (changeG ds g at').1 ds.length = true ∧ g.length ≤ (changeG ds g at').1.length := by
  obtain ⟨ha, h | h⟩ := h
  · obtain ⟨ho, f, l, n, hs, h3, hn, hnl, hl⟩ := h
    have hc := call_parts hg hp ha hs hn hnl hl
    unfold changeG
    rw [if_pos ho]
    unfold callG
    split
    · rename_i hle
      have hok := addT_ok (defs := ds.length) (args := argsL g l) 16 ds[n].2 g (graphB_iff.1 hg).2 hc.2.2.2.2.2 hc.2.2.1
      have hsz := (addT_size (argsL g l) ds[n].2 g).1
      have hb := (graphB_iff.1 hg).1
      rw [hc.1] at hle ⊢
      have hg2 : graphB (addT (argsL g l) ds[n].2 g).1 ds.length = true := graphB_iff.2 ⟨⟨by omega, hb.2⟩, hok.1⟩
      exact ⟨graphB_set hg2 _ _ (ind_fits hok.2), by simp only [List.length_set]; exact hsz⟩
    · exact ⟨hg, Nat.le_refl _⟩
  · unfold changeG
    rw [if_neg (ready_op (ds := ds) h)]
    exact ⟨graphB_set hg _ _ (opCell_fits hg ha h), by simp only [List.length_set]; exact Nat.le_refl _⟩
theorem stepG_valid {ds : List Df} {g : List Ce} (hg : graphB g ds.length = true) (hp : progB ds = true) {a : Nat} (ha : a < g.length) (hv : valB (arsOf ds) g a = false) : graphB (stepG ds g a).1 ds.length = true ∧ g.length ≤ (stepG ds g a).1.length := by
  unfold stepG
  cases hr : redex (arsOf ds) g a with
  | none => exact ⟨hg, Nat.le_refl _⟩
  | some at' => exact changeG_valid hg hp (redex_ready hg hp ha hv hr)
end Go.Proofs.YtiipcgnkfhjpeaaGreatDoor
/-
  PLAIN: the order in which cells are copied, their new places, and the copy. No program is named here.
-/
namespace Go.Proofs.YtiipcgnkfhjpeaaGreatDoor
set_option linter.unusedVariables false
set_option linter.unusedSimpArgs false

/-- the place of a number in a list, or its length -/
def posN : List Nat → Nat → Nat
  | [], _ => 0
  | a :: l, x => if a = x then 0 else posN l x + 1
theorem posN_lt : ∀ (l : List Nat) (x : Nat), x ∈ l → posN l x < l.length
  | [], _, h => by simp at h
  | a :: l, x, h => by
    unfold posN
    split
    · simp
    · rename_i hne
      have : x ∈ l := by rcases List.mem_cons.1 h with rfl | h; exact absurd rfl hne; exact h
      have := posN_lt l x this
      simp; omega
theorem posN_app : ∀ (l m : List Nat) (x : Nat), x ∈ l → posN (l ++ m) x = posN l x
  | [], _, _, h => by simp at h
  | a :: l, m, x, h => by
    simp only [List.cons_append, posN]
    split
    · rfl
    · rename_i hne
      have : x ∈ l := by rcases List.mem_cons.1 h with rfl | h; exact absurd rfl hne; exact h
      rw [posN_app l m x this]
theorem posN_snoc (l : List Nat) (x : Nat) (h : x ∉ l) : posN (l ++ [x]) x = l.length := by
  induction l with
  | nil => simp [posN]
  | cons a l ih =>
    simp only [List.mem_cons, not_or] at h
    simp only [List.cons_append, posN]
    rw [if_neg (fun e => h.1 e.symm), ih h.2]; rfl
theorem posN_at : ∀ (l : List Nat) (i : Nat) (h : i < l.length), l.Nodup → posN l l[i] = i
  | [], _, h, _ => by simp at h
  | a :: l, 0, _, _ => by simp [posN]
  | a :: l, i + 1, h, hn => by
    rw [List.nodup_cons] at hn
    simp only [List.length_cons] at h
    simp only [List.getElem_cons_succ, posN]
    rw [if_neg (by intro e; exact hn.1 (by rw [e]; exact List.getElem_mem _)), posN_at l i (by omega) hn.2]
theorem posN_pre {l m : List Nat} (h : l <+: m) {x : Nat} (hx : x ∈ l) : posN m x = posN l x := by
  obtain ⟨t, rfl⟩ := h; exact posN_app l t x hx

/-- a list of different numbers below n is no longer than n -/
theorem nodup_len {n : Nat} {l : List Nat} (hn : l.Nodup) (hl : ∀ x ∈ l, x < n) : l.length ≤ n :=
  pigeon n l.length (fun i => l.getD i 0) (fun i hi => by rw [getD_at _ _ _ hi]; exact hl _ (List.getElem_mem hi)) (fun i j hi hj e => by
    simp only [getD_at _ _ _ hi, getD_at _ _ _ hj] at e
    rw [← posN_at l i hi hn, ← posN_at l j hj hn, e])

/-- one more cell, if it is not there yet -/
def visit (out : List Nat) (x : Nat) : List Nat := if x ∈ out then out else out ++ [x]
def visitL (out : List Nat) (l : List Nat) : List Nat := l.foldl visit out
theorem visit_in {out : List Nat} {x : Nat} (h : x ∈ out) : visit out x = out := by unfold visit; rw [if_pos h]
theorem visit_new {out : List Nat} {x : Nat} (h : x ∉ out) : visit out x = out ++ [x] := by unfold visit; rw [if_neg h]
theorem visit_pre (out : List Nat) (x : Nat) : out <+: visit out x := by
  unfold visit; split
  · exact List.prefix_refl _
  · exact List.prefix_append _ _
theorem visit_mem (out : List Nat) (x : Nat) : x ∈ visit out x := by
  unfold visit; split
  · assumption
  · simp
theorem visit_of {out : List Nat} {x y : Nat} (h : y ∈ visit out x) : y ∈ out ∨ y = x := by
  unfold visit at h; split at h
  · exact Or.inl h
  · simpa using h
theorem visit_nodup {out : List Nat} {x : Nat} (h : out.Nodup) : (visit out x).Nodup := by
  unfold visit; split
  · exact h
  · rename_i hx
    rw [List.nodup_append]
    exact ⟨h, by simp, by intro a ha b hb; simp only [List.mem_singleton] at hb; subst hb; intro e; exact hx (e ▸ ha)⟩
theorem visitL_snoc (out : List Nat) (l : List Nat) (x : Nat) : visitL out (l ++ [x]) = visit (visitL out l) x := by unfold visitL; rw [List.foldl_append]; rfl
theorem visitL_pre : ∀ (l out : List Nat), out <+: visitL out l
  | [], _ => List.prefix_refl _
  | x :: l, out => (visit_pre out x).trans (visitL_pre l _)
theorem visitL_mem : ∀ (l out : List Nat) (x : Nat), x ∈ l → x ∈ visitL out l
  | [], _, _, h => by simp at h
  | y :: l, out, x, h => by
    rcases List.mem_cons.1 h with rfl | h
    · exact (visitL_pre l _).subset (visit_mem out x)
    · exact visitL_mem l _ x h
theorem visitL_of : ∀ (l out : List Nat) (y : Nat), y ∈ visitL out l → y ∈ out ∨ y ∈ l
  | [], _, _, h => Or.inl h
  | x :: l, out, y, h => by
    rcases visitL_of l _ y h with h | h
    · rcases visit_of h with h | rfl
      · exact Or.inl h
      · exact Or.inr (List.mem_cons_self ..)
    · exact Or.inr (List.mem_cons_of_mem _ h)
theorem visitL_nodup : ∀ (l out : List Nat), out.Nodup → (visitL out l).Nodup
  | [], _, h => h
  | x :: l, out, h => visitL_nodup l _ (visit_nodup h)
/-! ### The order -/
def ordN (g : List Ce) : Nat → Nat → List Nat → List Nat
  | 0, _, out => out
  | n + 1, i, out => if i < out.length then ordN g n (i + 1) (visitL out (kidsN g (out.getD i 0))) else out
def orderG (g : List Ce) (roots : List Nat) : List Nat := ordN g (g.length + 1) 0 (visitL [] roots)
/-- what holds when the operands of the first i cells have been copied -/
structure OrdRel (g : List Ce) (roots : List Nat) (i : Nat) (out : List Nat) : Prop where
  eq : ordN g (g.length + 1 - i) i out = orderG g roots
  le : i ≤ out.length
  nd : out.Nodup
  lt : ∀ x ∈ out, x < g.length
  rt : ∀ x ∈ roots, x ∈ out
  cl : ∀ j (hj : j < i), ∀ k ∈ kidsN g (out.getD j 0), k ∈ out
theorem OrdRel.len {g : List Ce} {roots : List Nat} {i : Nat} {out : List Nat} (h : OrdRel g roots i out) : out.length ≤ g.length := nodup_len h.nd h.lt
theorem OrdRel.start {g : List Ce} {roots : List Nat} (hr : ∀ x ∈ roots, x < g.length) : OrdRel g roots 0 (visitL [] roots) where
  eq := rfl
  le := Nat.zero_le _
  nd := visitL_nodup _ _ (by simp)
  lt := fun x hx => by rcases visitL_of _ _ _ hx with h | h; simp at h; exact hr x h
  rt := fun x hx => visitL_mem _ _ _ hx
  cl := fun j hj => absurd hj (by omega)
theorem getD_pre {l m : List Nat} (h : l <+: m) {j : Nat} (hj : j < l.length) : m.getD j 0 = l.getD j 0 := by
  obtain ⟨t, rfl⟩ := h
  rw [List.getD_eq_getElem?_getD, List.getD_eq_getElem?_getD, List.getElem?_append_left hj]
theorem OrdRel.step {g : List Ce} {defs : Int} {roots : List Nat} {i : Nat} {out : List Nat} (hg : graphB g defs = true) (h : OrdRel g roots i out) (hi : i < out.length) : OrdRel g roots (i + 1) (visitL out (kidsN g (out.getD i 0))) := by
  have hlen := h.len
  have hp := visitL_pre (kidsN g (out.getD i 0)) out
  have hx : out.getD i 0 < g.length := by rw [getD_at _ _ _ hi]; exact h.lt _ (List.getElem_mem hi)
  refine ⟨?_, Nat.le_trans hi hp.length_le, visitL_nodup _ _ h.nd, fun x hx2 => ?_, fun x hx2 => hp.subset (h.rt x hx2), fun j hj k hk => ?_⟩
  · rw [← h.eq, show g.length + 1 - i = (g.length + 1 - (i + 1)) + 1 by omega]
    conv => rhs; unfold ordN; rw [if_pos hi]
  · rcases visitL_of _ _ _ hx2 with h1 | h1
    · exact h.lt x h1
    · exact kidsN_lt hg _ hx x h1
  · rw [getD_pre hp (by omega)] at hk
    rcases Nat.lt_or_ge j i with h1 | h1
    · exact hp.subset (h.cl j h1 k hk)
    · obtain rfl : j = i := by omega
      exact visitL_mem _ _ _ hk
theorem OrdRel.fin {g : List Ce} {roots : List Nat} {i : Nat} {out : List Nat} (h : OrdRel g roots i out) (hi : ¬ i < out.length) : out = orderG g roots := by
  have := h.len
  have := h.le
  rw [← h.eq, show g.length + 1 - i = (g.length - i) + 1 by omega]
  unfold ordN; rw [if_neg hi]
/-- the order is reached -/
theorem order_rel {g : List Ce} {defs : Int} {roots : List Nat} (hg : graphB g defs = true) (hr : ∀ x ∈ roots, x < g.length) : ∃ i, OrdRel g roots i (orderG g roots) ∧ ¬ i < (orderG g roots).length := by
  have key : ∀ n i out, OrdRel g roots i out → g.length - i = n → ∃ i, OrdRel g roots i (orderG g roots) ∧ ¬ i < (orderG g roots).length := by
    intro n
    induction n with
    | zero =>
      intro i out h hn
      have := h.len
      have := h.le
      have hi : ¬ i < out.length := by omega
      have e := h.fin hi
      subst e
      exact ⟨i, h, hi⟩
    | succ n ih =>
      intro i out h hn
      by_cases hi : i < out.length
      · exact ih _ _ (h.step hg hi) (by omega)
      · have e := h.fin hi
        subst e
        exact ⟨i, h, hi⟩
  exact key _ _ _ (OrdRel.start hr) rfl

/-! ### The copy -/
/-- a copy, its operands by the places in an order -/
def cpCell (g : List Ce) (out : List Nat) (x : Nat) : Ce := ⟨opAt g x, numAt g x, (kidsN g x).map fun k => (posN out k : Int)⟩
def copyG (g : List Ce) (roots : List Nat) : List Ce := (orderG g roots).map (cpCell g (orderG g roots))
def topsG (g : List Ce) (roots : List Nat) : List Nat := roots.map (posN (orderG g roots))
theorem copyG_len (g : List Ce) (roots : List Nat) : (copyG g roots).length = (orderG g roots).length := by unfold copyG; simp
end Go.Proofs.YtiipcgnkfhjpeaaGreatDoor

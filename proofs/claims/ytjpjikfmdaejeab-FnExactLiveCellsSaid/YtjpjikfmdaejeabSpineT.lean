/-
  PLAIN FACTS ON NESTED APPLICATIONS IN A GRAPH, VALUES AND REDEXES.
-/
import Derived.Test.YtjpjikfmdaejeabL3Follow
import Derived.Test.YtjpjikfmdaejeabReach
namespace Go.Proofs.Ytjpjikfmdaejeab
set_option linter.unusedVariables false
set_option linter.unusedSimpArgs false

theorem kids_count {g : List Ce} {defs : Int} (h : graphB g defs = true) (a : Nat) (ha : a < g.length) : (g[a].kids.length : Int) = cArity g[a].op := by
  have hc := graphB_cell h a ha
  unfold cellB fitsB at hc
  simp only [Bool.and_eq_true, decide_eq_true_eq] at hc
  exact hc.1.1
/-- operand j of a cell, as a place -/
def kidAt (g : List Ce) (a j : Nat) : Nat := (kidsN g a).getD j 0
theorem kidAt_get {g : List Ce} {defs : Int} (h : graphB g defs = true) (a : Nat) (ha : a < g.length) (j : Nat) (hj : j < g[a].kids.length) : g[a].kids[j] = (kidAt g a j : Int) ∧ kidAt g a j < g.length := by
  obtain ⟨k, h1, h2, h3⟩ := kidsN_get h a ha j hj
  have e : kidAt g a j = k := by unfold kidAt; rw [List.getD_eq_getElem?_getD, h3]; rfl
  rw [e]; exact ⟨h1, h2⟩
/-- the function of nested applications and the cells of these, after at most n looks -/
def spineN (g : List Ce) : Nat → Nat → Option (Nat × List Nat)
  | 0, _ => none
  | n + 1, a => match followN g g.length a with
    | none => none
    | some f => if opAt g f = 4 then (spineN g n (kidAt g f 0)).map (fun x => (x.1, f :: x.2)) else some (f, [])
def spine (g : List Ce) (a : Nat) : Option (Nat × List Nat) := spineN g (g.length + 1) a

/-- what holds behind every look -/
structure SpRel (g : List Ce) (a : Nat) (ws : List Nat) (b : Nat) : Prop where
  eq : spine g a = (spineN g (g.length + 1 - ws.length) b).map fun x => (x.1, ws ++ x.2)
  len : ws.length ≤ g.length + 1
  lt : b < g.length
theorem SpRel.start {g : List Ce} {a : Nat} (h : a < g.length) : SpRel g a [] a := ⟨by unfold spine; simp, by simp, h⟩
theorem SpRel.none {g : List Ce} {a b : Nat} {ws : List Nat} (h : SpRel g a ws b) (hl : ws.length ≤ g.length) (hf : followN g g.length b = .none) : spine g a = .none := by
  rw [h.eq, show g.length + 1 - ws.length = (g.length - ws.length) + 1 by omega, spineN, hf]; rfl
theorem SpRel.out {g : List Ce} {a b : Nat} {ws : List Nat} (h : SpRel g a ws b) (hl : g.length < ws.length) : spine g a = .none := by
  rw [h.eq, show g.length + 1 - ws.length = 0 by omega, spineN]; rfl
theorem SpRel.fin {g : List Ce} {a b f : Nat} {ws : List Nat} (h : SpRel g a ws b) (hl : ws.length ≤ g.length) (hf : followN g g.length b = some f) (ho : ¬ opAt g f = 4) : spine g a = some (f, ws) := by
  rw [h.eq, show g.length + 1 - ws.length = (g.length - ws.length) + 1 by omega, spineN, hf]
  simp [ho]
theorem SpRel.next {g : List Ce} {defs : Int} {a b f : Nat} {ws : List Nat} (h : SpRel g a ws b) (hg : graphB g defs = true) (hl : ws.length ≤ g.length) (hf : followN g g.length b = some f) (ho : opAt g f = 4) : SpRel g a (ws ++ [f]) (kidAt g f 0) := by
  have hfl := (followN_lt hg _ _ _ h.lt hf).1
  refine ⟨?_, by simp; omega, (kidAt_get hg f hfl 0 ?_).2⟩
  · rw [h.eq, show g.length + 1 - ws.length = (g.length - ws.length) + 1 by omega, spineN, hf]
    simp only [ho, if_true, List.length_append, List.length_cons, List.length_nil, Nat.zero_add]
    rw [show g.length + 1 - (ws.length + 1) = g.length - ws.length by omega, Option.map_map]
    congr 1
    funext x
    simp
  · have := kids_count hg f hfl
    rw [opAt_at f hfl] at ho
    rw [ho] at this
    have e : cArity 4 = 2 := by decide
    omega
theorem spineN_ok {g : List Ce} {defs : Int} (hg : graphB g defs = true) : ∀ (n a f : Nat) (l : List Nat), a < g.length → spineN g n a = some (f, l) → f < g.length ∧ opAt g f ≠ 4 ∧ opAt g f ≠ 11 ∧ (∀ k ∈ l, k < g.length ∧ opAt g k = 4) ∧ l.length < n
  | 0, _, _, _, _, e => by simp [spineN] at e
  | n + 1, a, f, l, ha, e => by
    unfold spineN at e
    cases hf : followN g g.length a with
    | none => rw [hf] at e; simp at e
    | some b =>
      rw [hf] at e
      have hb := followN_lt hg _ _ _ ha hf
      simp only at e
      split at e
      · rename_i h4
        obtain ⟨⟨f', l'⟩, h1, h2⟩ := Option.map_eq_some_iff.1 e
        simp only [Prod.mk.injEq] at h2
        obtain ⟨rfl, rfl⟩ := h2
        have hk : kidAt g b 0 < g.length := by
          refine (kidAt_get hg b hb.1 0 ?_).2
          have := kids_count hg b hb.1
          rw [opAt_at b hb.1] at h4
          rw [h4] at this
          have e : cArity 4 = 2 := by decide
          omega
        obtain ⟨r1, r2, r3, r4, r5⟩ := spineN_ok hg n _ _ _ hk h1
        refine ⟨r1, r2, r3, fun k hk => ?_, by simp; omega⟩
        rcases List.mem_cons.1 hk with rfl | hk
        · exact ⟨hb.1, h4⟩
        · exact r4 k hk
      · rename_i h4
        simp only [Option.some.injEq, Prod.mk.injEq] at e
        obtain ⟨rfl, rfl⟩ := e
        exact ⟨hb.1, h4, hb.2, by simp, by simp⟩
theorem spine_ok {g : List Ce} {defs : Int} (hg : graphB g defs = true) {a f : Nat} {l : List Nat} (ha : a < g.length) (h : spine g a = some (f, l)) : f < g.length ∧ opAt g f ≠ 4 ∧ opAt g f ≠ 11 ∧ (∀ k ∈ l, k < g.length ∧ opAt g k = 4) ∧ l.length ≤ g.length := by
  obtain ⟨r1, r2, r3, r4, r5⟩ := spineN_ok hg _ _ _ _ ha h
  exact ⟨r1, r2, r3, r4, by omega⟩
/-- a cell that is neither an application nor an indirection is its own function -/
theorem spine_self {g : List Ce} {f : Nat} (hf : f < g.length) (h4 : opAt g f ≠ 4) (h11 : opAt g f ≠ 11) : spine g f = some (f, []) := by
  unfold spine spineN
  have e : followN g g.length f = some f := by
    obtain ⟨n, hn⟩ : ∃ n, g.length = n + 1 := ⟨g.length - 1, by omega⟩
    rw [hn]; exact followN_stop h11
  rw [e]; simp [h4]

/-- what SpineOf answers -/
def spV (g : List Ce) (a : Int) : Option (Nat × List Nat) := if graphB g 6 = true ∧ 0 ≤ a ∧ a < g.length then spine g a.toNat else none
def spF (o : Option (Nat × List Nat)) : Int := match o with | some x => (x.1 : Int) | none => 0
def spL (o : Option (Nat × List Nat)) : List Nat := match o with | some x => x.2 | none => []

/-! ### Values -/
def numAt (g : List Ce) (a : Nat) : Int := (g.getD a ⟨0, 0, []⟩).num
theorem numAt_at {g : List Ce} (a : Nat) (ha : a < g.length) : numAt g a = g[a].num := by unfold numAt; rw [getD_at _ _ _ ha]
/-- the arity of a function -/
def arOf (ars : List Int) (n : Int) : Int := (ars[n.toNat]?).getD 0
/-- does a cell stand for a value? -/
def valB (ars : List Int) (g : List Ce) (a : Nat) : Bool := match spine g a with
  | none => false
  | some (f, l) => if opAt g f = 2 ∨ opAt g f = 5 then decide (l.length = 0) else decide (opAt g f = 3) && decide ((l.length : Int) < arOf ars (numAt g f))

/-! ### Redexes -/
/-- the application of a function to as many cells as its arity says -/
def callAt (f : Nat) (l : List Nat) (ar : Int) : Nat := if ar = 0 then f else l.getD (l.length - ar.toNat) 0
/-- the kind of the cell for which a cell stands -/
def kindOf (g : List Ce) (a : Nat) : Option Int := (followN g g.length a).map (opAt g)
/-- does a step wait for an operand? none: it is stuck; some (some k): for k -/
def waitOne (ars : List Int) (g : List Ce) (k : Nat) (kind : Int) (rest : Option (Option Nat)) : Option (Option Nat) :=
  if valB ars g k = false then some (some k) else if kindOf g k = some kind then rest else none
def waits (ars : List Int) (g : List Ce) (f : Nat) : Option (Option Nat) :=
  if opAt g f = 6 ∨ opAt g f = 7 then waitOne ars g (kidAt g f 0) 5 (some none)
  else if opAt g f = 10 then waitOne ars g (kidAt g f 0) 2 (some none)
  else waitOne ars g (kidAt g f 0) 2 (waitOne ars g (kidAt g f 1) 2 (some none))
/-- the redex of a cell that stands for no value, after at most n operands -/
def redexN (ars : List Int) (g : List Ce) : Nat → Nat → Option Nat
  | 0, _ => none
  | n + 1, a => match spine g a with
    | none => none
    | some (f, l) =>
      if opAt g f = 3 then some (callAt f l (arOf ars (numAt g f)))
      else if opAt g f = 2 ∨ opAt g f = 5 then none
      else match waits ars g f with
        | none => none
        | some none => some f
        | some (some k) => redexN ars g n k
def redex (ars : List Int) (g : List Ce) (a : Nat) : Option Nat := redexN ars g (g.length + 1) a
end Go.Proofs.Ytjpjikfmdaejeab

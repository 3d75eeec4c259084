/-
  REPLACING VARIABLES, plainly: the tree, its size, its variables. No program is named here.
-/
import Derived.Test.YtidijbnoaeopdaaGreatDoorMgExactNumberRun11
import Derived.Test.YtidijbnoaeopdaaGreatDoorMgExactNumberRun9
import Derived.Test.YtidijbnoaeopdaaGreatDoorMgExactNumberRun10
import Derived.Test.YtidijbnoaeopdaaGreatDoorMgExactNumberRun5
import Derived.Test.YtidijbnoaeopdaaGreatDoorMgExactNumberRun8
namespace Go.Proofs.YtidijbnoaeopdaaGreatDoor
set_option linter.unusedVariables false
set_option linter.unusedSimpArgs false
open Go.RowKit

/-- every node's variable has a place among so many -/
def VarOk (n : Nat) (t : Tr) : Prop := t.op = 1 → 0 ≤ t.num ∧ t.num < n ∧ t.kids = []
mutual
def AllT (P : Tr → Prop) : Tr → Prop
  | .node o n ks => P (.node o n ks) ∧ AllL P ks
def AllL (P : Tr → Prop) : List Tr → Prop
  | [] => True
  | t :: ts => AllT P t ∧ AllL P ts
end
theorem allT_iff (P : Tr → Prop) (t : Tr) : AllT P t ↔ P t ∧ AllL P t.kids := by cases t; simp [AllT]
theorem allL_iff (P : Tr → Prop) : ∀ l : List Tr, AllL P l ↔ ∀ t ∈ l, AllT P t
  | [] => by simp [AllL]
  | t :: ts => by simp [AllL, allL_iff P ts]
theorem AllT.kid {P : Tr → Prop} {t : Tr} (h : AllT P t) (i : Nat) (hi : i < t.kids.length) : AllT P t.kids[i] := (allL_iff P _).1 ((allT_iff P t).1 h).2 _ (List.getElem_mem hi)
/-- what a well-formed tree's variables are -/
theorem varOk_of_sh (vars : Nat) (defs : Int) : ∀ (d : Nat) (t : Tr), shB vars defs d t = true → AllT (VarOk vars) t
  | 0, t, h => by simp [shB] at h
  | d + 1, t, h => by
    unfold shB at h
    simp only [Bool.and_eq_true, decide_eq_true_eq, List.all_eq_true] at h
    obtain ⟨⟨h1, h2⟩, h3⟩ := h
    refine (allT_iff _ t).2 ⟨fun ho => ?_, (allL_iff _ _).2 fun k hk => varOk_of_sh vars defs d k (h3 k hk)⟩
    unfold ownB at h2
    rw [if_pos ho] at h2
    simp only [decide_eq_true_eq] at h2
    unfold arity at h1
    rw [if_pos (Or.inl ho)] at h1
    exact ⟨h2.1, h2.2, List.eq_nil_of_length_eq_zero (by omega)⟩

end Go.Proofs.YtidijbnoaeopdaaGreatDoor
/-
  WHAT AddExpr AND BuildGraph HAND BACK.
-/
namespace Go.Proofs.YtidijbnoaeopdaaGreatDoor
set_option linter.unusedVariables false
set_option linter.unusedSimpArgs false
open Go.RowKit

/-- the graph with the expression's cells, the expression's cell, and whether there is one -/
def addOut (g : List Ce) (t : Tr) (xs : List Int) (defs : Int) : List Ce × Nat × Bool :=
  if graphB g defs = true ∧ validB t xs.length defs = true ∧ xs.all (isAt g.length) = true ∧ (addT (xs.map Int.toNat) t g).1.length ≤ 400 then ((addT (xs.map Int.toNat) t g).1, (addT (xs.map Int.toNat) t g).2, true) else ([], 0, false)
theorem addOut_yes {g : List Ce} {t : Tr} {xs : List Int} {defs : Int} (h1 : graphB g defs = true) (h2 : validB t xs.length defs = true) (h3 : xs.all (isAt g.length) = true) (h4 : (addT (xs.map Int.toNat) t g).1.length ≤ 400) : addOut g t xs defs = ((addT (xs.map Int.toNat) t g).1, (addT (xs.map Int.toNat) t g).2, true) := by
  unfold addOut; rw [if_pos ⟨h1, h2, h3, h4⟩]
theorem addOut_no {g : List Ce} {t : Tr} {xs : List Int} {defs : Int} (h : ¬ (graphB g defs = true ∧ validB t xs.length defs = true ∧ xs.all (isAt g.length) = true ∧ (addT (xs.map Int.toNat) t g).1.length ≤ 400)) : addOut g t xs defs = ([], 0, false) := by
  unfold addOut; rw [if_neg h]
/-- a closed expression fits an empty graph -/
theorem addOut_closed (t : Tr) (defs : Int) : addOut [] t [] defs = if validB t 0 defs = true then ((addT [] t []).1, (addT [] t []).2, true) else ([], 0, false) := by
  by_cases h : validB t 0 defs = true
  · rw [if_pos h]
    have h' := h
    unfold validB at h'
    simp only [Bool.and_eq_true, decide_eq_true_eq] at h'
    have hs := (addT_size [] t []).2.1
    refine addOut_yes ?_ h (by simp) (by simp only [List.map_nil, List.length_nil] at *; omega)
    unfold graphB
    simp
    omega
  · rw [if_neg h]
    exact addOut_no fun hh => h hh.2.1
/-- an answer: the row of cells and the operands' rows are new -/
def AddOut (o : List Ce × Nat × Bool) (w : World) (e : Ending) (w' : World) : Prop :=
  ∃ v, e = .returned (.tuple #[v, .int .i64 (o.2.1 : Int), .bool o.2.2]) ∧ OwnC w' w.heap.size (fun b => w.heap.size ≤ b) o.1 v ∧ Below w.heap.size w w'
theorem OwnC.zero {w : World} {lo b : Nat} {S : Nat → Prop} (h : w.heap[b]? = some (.cells #[] 93)) (hb : lo ≤ b) : OwnC w lo S [] (.slice (some ⟨b, 0, none⟩) 0 0) :=
  ⟨fun i h => absurd h (by simp), [], fun _ => 0, ⟨rfl, Or.inr ⟨b, 0, #[], rfl, hb, h, Nat.le_refl _, by simp [maxLen], rfl, rfl⟩⟩, fun j hj => absurd hj (by simp), fun i j hi _ => absurd hi (by simp)⟩
end Go.Proofs.YtidijbnoaeopdaaGreatDoor
/-
  PLAIN: what a step makes of a graph. No program is named here.
-/
namespace Go.Proofs.YtidijbnoaeopdaaGreatDoor
set_option linter.unusedVariables false
set_option linter.unusedSimpArgs false

/-! ### Spines of the applications of a spine -/
theorem spineN_mono {g : List Ce} : ∀ (n a : Nat) (x : Nat × List Nat), spineN g n a = some x → spineN g (n + 1) a = some x
  | 0, _, _, h => by simp [spineN] at h
  | n + 1, a, x, h => by
    unfold spineN at h ⊢
    cases hf : followN g g.length a with
    | none => rw [hf] at h; simp at h
    | some f =>
      rw [hf] at h
      simp only at h ⊢
      split
      · rename_i h4
        rw [if_pos h4] at h
        obtain ⟨y, h1, h2⟩ := Option.map_eq_some_iff.1 h
        rw [spineN_mono n _ y h1]
        simp [h2]
      · rename_i h4
        rw [if_neg h4] at h
        exact h
theorem follow_self {g : List Ce} {f : Nat} (hf : f < g.length) (h11 : opAt g f ≠ 11) : followN g g.length f = some f := by
  obtain ⟨n, hn⟩ : ∃ n, g.length = n + 1 := ⟨g.length - 1, by omega⟩
  rw [hn]; exact followN_stop h11
theorem spineN_drop {g : List Ce} {defs : Int} (hg : graphB g defs = true) : ∀ (n a f : Nat) (l : List Nat), a < g.length → spineN g n a = some (f, l) → ∀ q (hq : q < l.length), spineN g n l[q] = some (f, l.drop q)
  | 0, _, _, _, _, h, _, _ => by simp [spineN] at h
  | n + 1, a, f, l, ha, h, q, hq => by
    unfold spineN at h
    cases hf : followN g g.length a with
    | none => rw [hf] at h; simp at h
    | some b =>
      rw [hf] at h
      have hb := followN_lt hg _ _ _ ha hf
      simp only at h
      split at h
      · rename_i h4
        obtain ⟨⟨f', l'⟩, h1, h2⟩ := Option.map_eq_some_iff.1 h
        simp only [Prod.mk.injEq] at h2
        obtain ⟨rfl, rfl⟩ := h2
        have hk : kidAt g b 0 < g.length := by
          refine (kidAt_get hg b hb.1 0 ?_).2
          have := kids_count hg b hb.1
          rw [opAt_at b hb.1] at h4
          rw [h4] at this
          have e : cArity 4 = 2 := by decide
          omega
        cases q with
        | zero =>
          simp only [List.getElem_cons_zero, List.drop_zero]
          unfold spineN
          rw [follow_self hb.1 hb.2]
          simp only [h4, if_true, h1, Option.map_some]
        | succ q =>
          simp only [List.getElem_cons_succ, List.drop_succ_cons]
          exact spineN_mono _ _ _ (spineN_drop hg n _ _ _ hk h1 q (by simpa using hq))
      · simp only [Option.some.injEq, Prod.mk.injEq] at h
        obtain ⟨rfl, rfl⟩ := h
        simp at hq
theorem spine_drop {g : List Ce} {defs : Int} (hg : graphB g defs = true) {a f : Nat} {l : List Nat} (ha : a < g.length) (h : spine g a = some (f, l)) (q : Nat) (hq : q < l.length) : spine g l[q] = some (f, l.drop q) := spineN_drop hg _ _ _ _ ha h q hq

/-! ### Redexes are ready -/
/-- a call with just its arguments -/
def CallReady (ds : List Df) (g : List Ce) (at' : Nat) : Prop := (opAt g at' = 3 ∨ opAt g at' = 4) ∧ ∃ (f : Nat) (l : List Nat) (n : Nat), spine g at' = some (f, l) ∧ opAt g f = 3 ∧ numAt g f = (n : Int) ∧ ∃ h : n < ds.length, ds[n].1 = (l.length : Int)
def OpReady (g : List Ce) (at' : Nat) : Prop :=
  ((opAt g at' = 6 ∨ opAt g at' = 7) ∧ ∃ b, followN g g.length (kidAt g at' 0) = some b ∧ opAt g b = 5) ∨
  (opAt g at' = 10 ∧ ∃ b, followN g g.length (kidAt g at' 0) = some b ∧ opAt g b = 2) ∨
  ((opAt g at' = 8 ∨ opAt g at' = 9) ∧ (∃ b, followN g g.length (kidAt g at' 0) = some b ∧ opAt g b = 2) ∧ ∃ b, followN g g.length (kidAt g at' 1) = some b ∧ opAt g b = 2)
def Ready (ds : List Df) (g : List Ce) (at' : Nat) : Prop := at' < g.length ∧ (CallReady ds g at' ∨ OpReady g at')
theorem waitOne_none {ars : List Int} {g : List Ce} {k : Nat} {kind : Int} {r : Option (Option Nat)} (h : waitOne ars g k kind r = some none) : (∃ b, followN g g.length k = some b ∧ opAt g b = kind) ∧ r = some none := by
  unfold waitOne at h
  split at h
  · simp at h
  · split at h
    · rename_i h2
      unfold kindOf at h2
      obtain ⟨b, h3, h4⟩ := Option.map_eq_some_iff.1 h2
      exact ⟨⟨b, h3, h4⟩, h⟩
    · cases h
theorem redexN_ready {ds : List Df} {g : List Ce} (hg : graphB g ds.length = true) (hp : progB ds = true) : ∀ (n a at' : Nat), a < g.length → valB (arsOf ds) g a = false → redexN (arsOf ds) g n a = some at' → Ready ds g at'
  | 0, _, _, _, _, h => by simp [redexN] at h
  | n + 1, a, at', ha, hv, h => by
    cases hs : spine g a with
    | none => rw [redexN_none hs] at h; cases h
    | some x =>
      obtain ⟨f, l⟩ := x
      have hok := spine_ok hg ha hs
      have hff := hok.1
      have hop := opAt_at f hff
      by_cases h3 : opAt g f = 3
      · rw [redexN_glob hs h3] at h
        obtain ⟨nn, hn, hnl⟩ := glob_num hg f hff (by rw [← hop]; exact h3)
        have hnl' : nn < ds.length := by omega
        have hna : numAt g f = (nn : Int) := by rw [numAt_at f hff]; exact hn
        have hle := call_idx (n := nn) hs h3 hna hnl' hv
        have h0 := prog_ar hp nn hnl'
        rw [hna, arOf_at ds nn hnl'] at h
        obtain ⟨ar, har⟩ : ∃ ar : Nat, ds[nn].1 = (ar : Int) := ⟨ds[nn].1.toNat, by omega⟩
        rw [har] at h hle
        simp only [Option.some.injEq] at h
        by_cases hz : ar = 0
        · subst hz
          rw [Int.ofNat_zero, callAt_zero] at h
          subst h
          exact ⟨hff, Or.inl ⟨Or.inl h3, f, [], nn, spine_self hff hok.2.1 hok.2.2.1, h3, hna, hnl', har⟩⟩
        · obtain ⟨q, hq⟩ : ∃ q, q + ar = l.length := ⟨l.length - ar, by omega⟩
          have hql : q < l.length := by omega
          rw [callAt_at hz hq] at h
          subst h
          have hm := hok.2.2.2.1 l[q] (List.getElem_mem hql)
          refine ⟨hm.1, Or.inl ⟨Or.inr hm.2, f, l.drop q, nn, spine_drop hg ha hs q hql, h3, hna, hnl', ?_⟩⟩
          rw [har, List.length_drop]; omega
      · by_cases h25 : opAt g f = 2 ∨ opAt g f = 5
        · rw [redexN_val hs h25] at h; cases h
        · rw [redexN_op hs h3 (by omega) (by omega)] at h
          have hk := op_kinds hg f hff (by rw [← hop]; exact hok.2.1) (by rw [← hop]; exact hok.2.2.1) (by rw [← hop]; omega) (by rw [← hop]; exact h3) (by rw [← hop]; omega)
          rw [← hop] at hk
          cases hw : waits (arsOf ds) g f with
          | none => rw [hw] at h; cases h
          | some o =>
            cases o with
            | none =>
              rw [hw] at h
              simp only [Option.some.injEq] at h
              subst h
              refine ⟨hff, Or.inr ?_⟩
              by_cases h67 : opAt g f = 6 ∨ opAt g f = 7
              · rw [waits1 h67] at hw
                exact Or.inl ⟨h67, (waitOne_none hw).1⟩
              · by_cases h10 : opAt g f = 10
                · rw [waits10 h10] at hw
                  exact Or.inr (Or.inl ⟨h10, (waitOne_none hw).1⟩)
                · have h89 : opAt g f = 8 ∨ opAt g f = 9 := by omega
                  rw [waits2 h89] at hw
                  have h1 := waitOne_none hw
                  exact Or.inr (Or.inr ⟨h89, h1.1, (waitOne_none h1.2).1⟩)
            | some k =>
              rw [hw] at h
              have hwk : k < g.length ∧ valB (arsOf ds) g k = false := by
                have hmany : manyOf (opAt g f) ≤ g[f].kids.length := by
                  have h2 := hk.2
                  have h1 := hk.1
                  unfold manyOf
                  split at h2 <;> (try split at h2) <;> split <;> omega
                rw [waits_list hk.1] at hw
                obtain ⟨m1, m2⟩ := waitsL_some _ hw
                simp only [List.mem_map, List.mem_range] at m1
                obtain ⟨j, hj, rfl⟩ := m1
                exact ⟨(kidAt_get hg f hff j (by omega)).2, m2⟩
              exact redexN_ready hg hp n k at' hwk.1 hwk.2 h
theorem redex_ready {ds : List Df} {g : List Ce} (hg : graphB g ds.length = true) (hp : progB ds = true) {a at' : Nat} (ha : a < g.length) (hv : valB (arsOf ds) g a = false) (h : redex (arsOf ds) g a = some at') : Ready ds g at' := redexN_ready hg hp _ _ _ ha hv h

/-! ### What a step makes -/
def argsL (g : List Ce) (l : List Nat) : List Nat := (l.map fun a => kidAt g a 1).reverse
def indTo (k : Nat) : Ce := ⟨11, 0, [(k : Int)]⟩
def numC (n : Int) : Ce := ⟨2, n, []⟩
def numberOf (op a b : Int) : Int := if op = 9 then (a + (1000 - b)) % 1000 else (a + b) % 1000
def folAt (g : List Ce) (k : Nat) : Nat := (followN g g.length k).getD 0
theorem folAt_some {g : List Ce} {k b : Nat} (h : followN g g.length k = some b) : folAt g k = b := by unfold folAt; rw [h]; rfl
def bodyAt (ds : List Df) (n : Int) : Tr := (ds.getD n.toNat (0, .node 0 0 [])).2
def callR (ds : List Df) (g : List Ce) (at' : Nat) : List Ce × Nat := match spine g at' with
  | none => (g, 0)
  | some (f, l) => addT (argsL g l) (bodyAt ds (numAt g f)) g
def callG (ds : List Df) (g : List Ce) (at' : Nat) : List Ce × Nat := if (callR ds g at').1.length ≤ 400 then ((callR ds g at').1.set at' (indTo (callR ds g at').2), 0) else (g, 3)
def opCell (g : List Ce) (at' : Nat) : Ce :=
  if opAt g at' = 6 then indTo (kidAt g (folAt g (kidAt g at' 0)) 0)
  else if opAt g at' = 7 then indTo (kidAt g (folAt g (kidAt g at' 0)) 1)
  else if opAt g at' = 10 then indTo (if numAt g (folAt g (kidAt g at' 0)) = 0 then kidAt g at' 1 else kidAt g at' 2)
  else numC (numberOf (opAt g at') (numAt g (folAt g (kidAt g at' 0))) (numAt g (folAt g (kidAt g at' 1))))
def changeG (ds : List Df) (g : List Ce) (at' : Nat) : List Ce × Nat := if opAt g at' = 3 ∨ opAt g at' = 4 then callG ds g at' else (g.set at' (opCell g at'), 0)
def stepG (ds : List Df) (g : List Ce) (a : Nat) : List Ce × Nat := match redex (arsOf ds) g a with
  | none => (g, 2)
  | some at' => changeG ds g at'
/-- steps until there is a value: the graph, the code and the number of steps -/
def evalG (ds : List Df) (a : Nat) : Nat → List Ce → List Ce × Nat × Nat
  | 0, g => if valB (arsOf ds) g a = true then (g, 0, 0) else (g, 1, 0)
  | n + 1, g => if valB (arsOf ds) g a = true then (g, 0, 0) else if (stepG ds g a).2 = 0 then ((evalG ds a n (stepG ds g a).1).1, (evalG ds a n (stepG ds g a).1).2.1, (evalG ds a n (stepG ds g a).1).2.2 + 1) else (g, (stepG ds g a).2, 0)
end Go.Proofs.YtidijbnoaeopdaaGreatDoor
/-
  PLAIN: a step leaves a graph that is valid for the program. No program is named here.
-/
namespace Go.Proofs.YtidijbnoaeopdaaGreatDoor
set_option linter.unusedVariables false
set_option linter.unusedSimpArgs false

/-- cells whose operands are below N -/
def GOk (defs : Int) (N : Nat) (g : List Ce) : Prop := ∀ c ∈ g, fitsB defs c = true ∧ ∀ k ∈ c.kids, 0 ≤ k ∧ k < (N : Int)
theorem GOk.mono {defs : Int} {N M : Nat} {g : List Ce} (h : GOk defs N g) (hm : N ≤ M) : GOk defs M g := fun c hc => ⟨(h c hc).1, fun k hk => by have := (h c hc).2 k hk; omega⟩
theorem graphB_iff {g : List Ce} {defs : Int} : graphB g defs = true ↔ ((g.length : Int) ≤ 400 ∧ 0 ≤ defs ∧ defs ≤ 6) ∧ GOk defs g.length g := by
  unfold graphB GOk cellB
  simp only [Bool.and_eq_true, decide_eq_true_eq, List.all_eq_true, isAt]
theorem own_novar {op n vars defs : Int} (h : op ≠ 1) (ho : ownB op n vars defs = true) : ownB op n 0 defs = true := by
  unfold ownB at ho ⊢
  rw [if_neg h] at ho ⊢
  exact ho
mutual
theorem addT_ok {defs : Int} {args : List Nat} : ∀ (d : Nat) (t : Tr) (g : List Ce), GOk defs g.length g → (∀ x ∈ args, x < g.length) → shB args.length defs d t = true → GOk defs (addT args t g).1.length (addT args t g).1 ∧ (addT args t g).2 < (addT args t g).1.length
  | 0, t, g, _, _, h => by simp [shB] at h
  | d + 1, .node op n ks, g, hg, ha, h => by
    simp only [shB, Bool.and_eq_true, decide_eq_true_eq, List.all_eq_true, Tr.kids_node, Tr.op_node, Tr.num_node] at h
    obtain ⟨⟨h1, h2⟩, h3⟩ := h
    by_cases hop : op = 1
    · rw [addT_var (t := .node op n ks) g hop]
      refine ⟨hg, ?_⟩
      unfold ownB at h2
      rw [if_pos hop] at h2
      simp only [decide_eq_true_eq] at h2
      have hlt : n.toNat < args.length := by omega
      show args.getD n.toNat 0 < g.length
      rw [getD_at _ _ _ hlt]
      exact ha _ (List.getElem_mem hlt)
    · obtain ⟨k1, k2⟩ := addL_ok d ks g hg ha h3
      have hl := addL_length args ks g
      rw [addT_other (t := .node op n ks) g hop]
      simp only [Tr.op_node, Tr.num_node, Tr.kids_node]
      refine ⟨fun c hc => ?_, by simp⟩
      rw [List.length_append, List.length_cons, List.length_nil]
      rcases List.mem_append.1 hc with hc | hc
      · exact ⟨(k1 c hc).1, fun k hk => by have := (k1 c hc).2 k hk; omega⟩
      · simp only [List.mem_singleton] at hc
        subst hc
        refine ⟨?_, fun k hk => ?_⟩
        · unfold fitsB
          simp only [Bool.and_eq_true, decide_eq_true_eq, List.length_map, hl]
          refine ⟨?_, own_novar hop h2⟩
          have h11 : op ≠ 11 := fun e => by subst e; simp [arity] at h1
          unfold cArity
          rw [if_neg h11]
          exact of_decide_eq_true h1
        · simp only [List.mem_map] at hk
          obtain ⟨x, hx, rfl⟩ := hk
          have := k2 x hx
          omega
theorem addL_ok {defs : Int} {args : List Nat} : ∀ (d : Nat) (ts : List Tr) (g : List Ce), GOk defs g.length g → (∀ x ∈ args, x < g.length) → (∀ t ∈ ts, shB args.length defs d t = true) → GOk defs (addL args ts g).1.length (addL args ts g).1 ∧ ∀ k ∈ (addL args ts g).2, k < (addL args ts g).1.length
  | d, [], g, hg, _, _ => by simp only [addL]; exact ⟨hg, by simp⟩
  | d, t :: ts, g, hg, ha, h => by
    obtain ⟨k1, k2⟩ := addT_ok d t g hg ha (h t (List.mem_cons_self ..))
    have hs := (addT_size args t g).1
    obtain ⟨m1, m2⟩ := addL_ok d ts (addT args t g).1 k1 (fun x hx => Nat.lt_of_lt_of_le (ha x hx) hs) fun t' ht' => h t' (List.mem_cons_of_mem _ ht')
    have hs2 := (addL_size args ts (addT args t g).1).1
    simp only [addL]
    refine ⟨m1, fun k hk => ?_⟩
    rcases List.mem_cons.1 hk with rfl | hk
    · omega
    · exact m2 k hk
end
theorem GOk.set {defs : Int} {N : Nat} {g : List Ce} (h : GOk defs N g) (i : Nat) (c : Ce) (hc : fitsB defs c = true ∧ ∀ k ∈ c.kids, 0 ≤ k ∧ k < (N : Int)) : GOk defs N (g.set i c) := by
  intro d hd
  rcases List.mem_or_eq_of_mem_set hd with hd | rfl
  · exact h d hd
  · exact hc
theorem ind_fits {defs : Int} {N k : Nat} (hk : k < N) : fitsB defs (indTo k) = true ∧ ∀ x ∈ (indTo k).kids, 0 ≤ x ∧ x < (N : Int) := by
  refine ⟨?_, fun x hx => ?_⟩
  · unfold fitsB indTo cArity ownB; simp
  · unfold indTo at hx; simp at hx; subst hx; omega
theorem num_fits {defs : Int} {N : Nat} {n : Int} (h0 : 0 ≤ n) (h1 : n ≤ 999) : fitsB defs (numC n) = true ∧ ∀ x ∈ (numC n).kids, 0 ≤ x ∧ x < (N : Int) := by
  refine ⟨?_, fun x hx => ?_⟩
  · unfold fitsB numC cArity arity ownB; simp; omega
  · unfold numC at hx; simp at hx
theorem numberOf_range (op a b : Int) : 0 ≤ numberOf op a b ∧ numberOf op a b ≤ 999 := by unfold numberOf; split <;> omega
theorem kids_op {g : List Ce} {defs : Int} (hg : graphB g defs = true) (f : Nat) (hf : f < g.length) : (g[f].kids.length : Int) = cArity (opAt g f) := by rw [opAt_at f hf]; exact kids_count hg f hf
theorem kidAt_lt {g : List Ce} {defs : Int} (hg : graphB g defs = true) (f j : Nat) (hf : f < g.length) (h : (j : Int) < cArity (opAt g f)) : kidAt g f j < g.length := by
  have h1 := kids_op hg f hf
  exact (kidAt_get hg f hf j (by omega)).2
theorem argsL_lt {g : List Ce} {defs : Int} (hg : graphB g defs = true) {l : List Nat} (h : ∀ k ∈ l, k < g.length ∧ opAt g k = 4) : ∀ x ∈ argsL g l, x < g.length := by
  intro x hx
  unfold argsL at hx
  simp only [List.mem_reverse, List.mem_map] at hx
  obtain ⟨a, ha, rfl⟩ := hx
  have h1 := h a ha
  exact kidAt_lt hg a 1 h1.1 (by rw [h1.2]; decide)
theorem bodyAt_at (ds : List Df) (n : Nat) (h : n < ds.length) : bodyAt ds (n : Int) = ds[n].2 := by unfold bodyAt; rw [Int.toNat_natCast, getD_at _ _ _ h]
theorem prog_body {ds : List Df} (h : progB ds = true) (n : Nat) (hn : n < ds.length) : validB ds[n].2 ds[n].1 ds.length = true := by
  unfold progB at h
  simp only [Bool.and_eq_true, List.all_eq_true] at h
  exact h.2 _ (List.getElem_mem hn)
/-- the parts of a call that is ready -/
theorem call_parts {ds : List Df} {g : List Ce} (hg : graphB g ds.length = true) (hp : progB ds = true) {at' f n : Nat} {l : List Nat} (ha : at' < g.length) (hs : spine g at' = some (f, l)) (hn : numAt g f = (n : Int)) (hnl : n < ds.length) (hl : ds[n].1 = (l.length : Int)) :
    callR ds g at' = addT (argsL g l) ds[n].2 g ∧ (argsL g l).length = l.length ∧ shB (argsL g l).length ds.length 16 ds[n].2 = true ∧ 1 + szT ds[n].2 ≤ 60 ∧ l.length ≤ 4 ∧ (∀ x ∈ argsL g l, x < g.length) := by
  have hv := prog_body hp n hnl
  have hlen : (argsL g l).length = l.length := by unfold argsL; simp
  have hok := spine_ok hg ha hs
  unfold validB at hv
  simp only [Bool.and_eq_true, decide_eq_true_eq] at hv
  refine ⟨?_, hlen, by rw [hlen, ← hl]; exact hv.2.1, hv.2.2, by omega, argsL_lt hg hok.2.2.2.1⟩
  unfold callR
  rw [hs]
  show addT (argsL g l) (bodyAt ds (numAt g f)) g = _
  rw [hn, bodyAt_at ds n hnl]
theorem graphB_set {g : List Ce} {defs : Int} (hg : graphB g defs = true) (i : Nat) (c : Ce) (hc : fitsB defs c = true ∧ ∀ k ∈ c.kids, 0 ≤ k ∧ k < (g.length : Int)) : graphB (g.set i c) defs = true := by
  rw [graphB_iff] at hg ⊢
  rw [List.length_set]
  exact ⟨hg.1, hg.2.set i c hc⟩
theorem opCell_fits {ds : List Df} {g : List Ce} (hg : graphB g ds.length = true) {at' : Nat} (ha : at' < g.length) (h : OpReady g at') : fitsB ds.length (opCell g at') = true ∧ ∀ k ∈ (opCell g at').kids, 0 ≤ k ∧ k < (g.length : Int) := by
  unfold opCell
  rcases h with ⟨h67, b, hb, hb5⟩ | ⟨h10, b, hb, hb2⟩ | ⟨h89, ⟨b, hb, hb2⟩, b', hb', hb2'⟩
  · rw [folAt_some hb]
    have hk0 : kidAt g at' 0 < g.length := kidAt_lt hg at' 0 ha (by rcases h67 with h | h <;> rw [h] <;> decide)
    have hbl := (followN_lt hg _ _ _ hk0 hb).1
    have e0 : kidAt g b 0 < g.length := kidAt_lt hg b 0 hbl (by rw [hb5]; decide)
    have e1 : kidAt g b 1 < g.length := kidAt_lt hg b 1 hbl (by rw [hb5]; decide)
    split
    · exact ind_fits e0
    · rw [if_pos (by omega)]; exact ind_fits e1
  · rw [if_neg (by omega), if_neg (by omega), if_pos h10]
    refine ind_fits ?_
    split
    · exact kidAt_lt hg at' 1 ha (by rw [h10]; decide)
    · exact kidAt_lt hg at' 2 ha (by rw [h10]; decide)
  · rw [if_neg (by omega), if_neg (by omega), if_neg (by omega)]
    have := numberOf_range (opAt g at') (numAt g (folAt g (kidAt g at' 0))) (numAt g (folAt g (kidAt g at' 1)))
    exact num_fits this.1 this.2
theorem ready_op {ds : List Df} {g : List Ce} {at' : Nat} (h : OpReady g at') : ¬ (opAt g at' = 3 ∨ opAt g at' = 4) := by
  rcases h with ⟨h, -⟩ | ⟨h, -⟩ | ⟨h, -⟩ <;> omega
theorem changeG_valid {ds : List Df} {g : List Ce} (hg : graphB g ds.length = true) (hp : progB ds = true) {at' : Nat} (h : Ready ds g at') : graphB (changeG ds g at').1 ds.length = true ∧ g.length ≤ (changeG ds g at').1.length := by
  obtain ⟨ha, h | h⟩ := h
  · obtain ⟨ho, f, l, n, hs, h3, hn, hnl, hl⟩ := h
    have hc := call_parts hg hp ha hs hn hnl hl
    unfold changeG
    rw [if_pos ho]
    unfold callG
    split
    · rename_i hle
      have hok := addT_ok (defs := ds.length) (args := argsL g l) 16 ds[n].2 g (graphB_iff.1 hg).2 hc.2.2.2.2.2 hc.2.2.1
      have hsz := (addT_size (argsL g l) ds[n].2 g).1
      have hb := (graphB_iff.1 hg).1
      rw [hc.1] at hle ⊢
      have hg2 : graphB (addT (argsL g l) ds[n].2 g).1 ds.length = true := graphB_iff.2 ⟨⟨by omega, hb.2⟩, hok.1⟩
      exact ⟨graphB_set hg2 _ _ (ind_fits hok.2), by simp only [List.length_set]; exact hsz⟩
    · exact ⟨hg, Nat.le_refl _⟩
  · unfold changeG
    rw [if_neg (ready_op (ds := ds) h)]
    exact ⟨graphB_set hg _ _ (opCell_fits hg ha h), by simp only [List.length_set]; exact Nat.le_refl _⟩
theorem stepG_valid {ds : List Df} {g : List Ce} (hg : graphB g ds.length = true) (hp : progB ds = true) {a : Nat} (ha : a < g.length) (hv : valB (arsOf ds) g a = false) : graphB (stepG ds g a).1 ds.length = true ∧ g.length ≤ (stepG ds g a).1.length := by
  unfold stepG
  cases hr : redex (arsOf ds) g a with
  | none => exact ⟨hg, Nat.le_refl _⟩
  | some at' => exact changeG_valid hg hp (redex_ready hg hp ha hv hr)
end Go.Proofs.YtidijbnoaeopdaaGreatDoor

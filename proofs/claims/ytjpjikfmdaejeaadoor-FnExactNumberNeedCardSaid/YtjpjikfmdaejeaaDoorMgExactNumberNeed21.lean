/-
  REPLACING VARIABLES, plainly: the tree, its size, its variables. No program is named here.
-/
import Derived.Test.YtjpjikfmdaejeaaDoorMgExactNumberNeed20
import Derived.Test.YtjpjikfmdaejeaaDoorMgExactNumberNeed15
import Derived.Test.YtjpjikfmdaejeaaDoorMgExactNumberNeed17
import Derived.Test.YtjpjikfmdaejeaaDoorMgExactNumberNeed8
import Derived.Test.YtjpjikfmdaejeaaDoorMgExactNumberNeed14
namespace Go.Proofs.YtjpjikfmdaejeaaDoor
set_option linter.unusedVariables false
set_option linter.unusedSimpArgs false
open Go.RowKit

mutual
/-- a tree with its variables replaced -/
def sbT (args : List Tr) : Tr → Tr
  | .node o n ks => if o = 1 then args.getD n.toNat default else .node o n (sbL args ks)
def sbL (args : List Tr) : List Tr → List Tr
  | [] => []
  | t :: ts => sbT args t :: sbL args ts
end
theorem sbT_eq (args : List Tr) (t : Tr) : sbT args t = if t.op = 1 then args.getD t.num.toNat default else .node t.op t.num (sbL args t.kids) := by cases t; simp [sbT]
theorem sbL_map (args : List Tr) : ∀ l : List Tr, sbL args l = l.map (sbT args)
  | [] => by simp [sbL]
  | t :: ts => by rw [sbL, sbL_map args ts]; rfl

/-- every node's variable has a place among so many -/
def VarOk (n : Nat) (t : Tr) : Prop := t.op = 1 → 0 ≤ t.num ∧ t.num < n ∧ t.kids = []
mutual
def AllT (P : Tr → Prop) : Tr → Prop
  | .node o n ks => P (.node o n ks) ∧ AllL P ks
def AllL (P : Tr → Prop) : List Tr → Prop
  | [] => True
  | t :: ts => AllT P t ∧ AllL P ts
end
theorem allT_iff (P : Tr → Prop) (t : Tr) : AllT P t ↔ P t ∧ AllL P t.kids := by cases t; simp [AllT]
theorem allL_iff (P : Tr → Prop) : ∀ l : List Tr, AllL P l ↔ ∀ t ∈ l, AllT P t
  | [] => by simp [AllL]
  | t :: ts => by simp [AllL, allL_iff P ts]
theorem AllT.kid {P : Tr → Prop} {t : Tr} (h : AllT P t) (i : Nat) (hi : i < t.kids.length) : AllT P t.kids[i] := (allL_iff P _).1 ((allT_iff P t).1 h).2 _ (List.getElem_mem hi)
theorem allT_true (P : Tr → Prop) (hP : ∀ t, P t) : ∀ (n : Nat) (t : Tr), szT t ≤ n → AllT P t := by
  intro n
  induction n with
  | zero =>
    intro t h
    refine (allT_iff P t).2 ⟨hP t, (allL_iff P _).2 fun k hk => ?_⟩
    obtain ⟨i, hi, rfl⟩ := List.getElem_of_mem hk
    exact absurd (szT_lt_szL t.kids i hi) (by rw [szT_eq] at h; omega)
  | succ n ih =>
    intro t h
    refine (allT_iff P t).2 ⟨hP t, (allL_iff P _).2 fun k hk => ?_⟩
    obtain ⟨i, hi, rfl⟩ := List.getElem_of_mem hk
    exact ih _ (by have := szT_lt_szL t.kids i hi; rw [szT_eq] at h; omega)
/-- what a well-formed tree's variables are -/
theorem varOk_of_sh (vars : Nat) (defs : Int) : ∀ (d : Nat) (t : Tr), shB vars defs d t = true → AllT (VarOk vars) t
  | 0, t, h => by simp [shB] at h
  | d + 1, t, h => by
    unfold shB at h
    simp only [Bool.and_eq_true, decide_eq_true_eq, List.all_eq_true] at h
    obtain ⟨⟨h1, h2⟩, h3⟩ := h
    refine (allT_iff _ t).2 ⟨fun ho => ?_, (allL_iff _ _).2 fun k hk => varOk_of_sh vars defs d k (h3 k hk)⟩
    unfold ownB at h2
    rw [if_pos ho] at h2
    simp only [decide_eq_true_eq] at h2
    unfold arity at h1
    rw [if_pos (Or.inl ho)] at h1
    exact ⟨h2.1, h2.2, List.eq_nil_of_length_eq_zero (by omega)⟩

/-- is a node the variable i? -/
def isVar (i : Nat) (t : Tr) : Bool := t.op == 1 && t.num == (i : Int)
/-- what the arguments add, so often -/
def gain (args : List Tr) (u : Nat → Nat) : Nat := ((List.range args.length).map fun i => u i * szT (args.getD i default)).sum
theorem sum_map_add (l : List Nat) (f g : Nat → Nat) : (l.map fun i => f i + g i).sum = (l.map f).sum + (l.map g).sum := by
  induction l with
  | nil => rfl
  | cons a l ih => simp only [List.map_cons, List.sum_cons, ih]; omega
theorem sum_map_zero (l : List Nat) : (l.map fun _ => 0).sum = 0 := by
  induction l with
  | nil => rfl
  | cons a l ih => simpa using ih
theorem gain_add (args : List Tr) (u v : Nat → Nat) : gain args (fun i => u i + v i) = gain args u + gain args v := by
  unfold gain
  rw [← sum_map_add]
  congr 1
  refine List.map_congr_left fun i _ => ?_
  rw [Nat.add_mul]
theorem gain_congr (args : List Tr) (u v : Nat → Nat) (h : ∀ i, i < args.length → u i = v i) : gain args u = gain args v := by
  unfold gain
  congr 1
  refine List.map_congr_left fun i hi => ?_
  rw [h i (List.mem_range.1 hi)]
theorem gain_zero (args : List Tr) : gain args (fun _ => 0) = 0 := by
  unfold gain
  rw [List.map_congr_left (g := fun _ => 0) (fun i _ => Nat.zero_mul _), sum_map_zero]
theorem sum_one (n j : Nat) (f : Nat → Nat) (h : j < n) : ((List.range n).map fun i => (if i = j then 1 else 0) * f i).sum = f j := by
  induction n with
  | zero => omega
  | succ n ih =>
    rw [List.range_succ, List.map_append, List.sum_append]
    simp only [List.map_cons, List.map_nil, List.sum_cons, List.sum_nil, Nat.add_zero]
    by_cases hj : j = n
    · subst hj
      have : ((List.range j).map fun i => (if i = j then 1 else 0) * f i).sum = 0 := by
        rw [List.map_congr_left (g := fun _ => 0) (fun i hi => ?_), sum_map_zero]
        have := List.mem_range.1 hi
        rw [if_neg (by omega), Nat.zero_mul]
      rw [this, if_pos rfl]
      omega
    · rw [ih (by omega), if_neg (fun e => hj e.symm)]
      omega
theorem gain_one (args : List Tr) (j : Nat) (h : j < args.length) : gain args (fun i => if i = j then 1 else 0) = szT (args.getD j default) := by
  unfold gain
  exact sum_one args.length j (fun i => szT (args.getD i default)) h

mutual
/-- the size of the result -/
theorem sz_sbT (args : List Tr) : ∀ t : Tr, AllT (VarOk args.length) t → szT (sbT args t) = szT t + gain args (fun i => cntT (isVar i) t)
  | .node o n ks, h => by
    obtain ⟨h1, h2⟩ := (allT_iff _ _).1 h
    by_cases ho : o = 1
    · obtain ⟨g1, g2, g3⟩ := h1 ho
      simp only [Tr.num_node, Tr.kids_node] at g1 g2 g3
      subst ho
      subst g3
      have hj : n.toNat < args.length := by omega
      simp only [sbT, if_true, szT, szL, Nat.zero_add]
      rw [← gain_one args n.toNat hj]
      refine gain_congr args _ _ fun i hi => ?_
      simp only [cntT, cntL, Nat.add_zero, isVar, Tr.op_node, Tr.num_node]
      by_cases hin : i = n.toNat
      · obtain rfl : n = (i : Int) := by omega
        simp
      · have : ¬ n = (i : Int) := by omega
        simp [hin, this]
    · have hk := sz_sbL args ks h2
      simp only [sbT, if_neg ho, szT, hk]
      congr 1
      refine gain_congr args _ _ fun i hi => ?_
      simp [cntT, isVar, ho]
theorem sz_sbL (args : List Tr) : ∀ l : List Tr, AllL (VarOk args.length) l → szL (sbL args l) = szL l + gain args (fun i => cntL (isVar i) l)
  | [], _ => by
    simp only [sbL, szL, cntL, Nat.zero_add]
    exact (gain_zero args).symm
  | t :: ts, h => by
    simp only [AllL] at h
    have h1 := sz_sbT args t h.1
    have h2 := sz_sbL args ts h.2
    simp only [sbL, szL, h1, h2]
    rw [show (fun i => cntL (isVar i) (t :: ts)) = fun i => cntT (isVar i) t + cntL (isVar i) ts from rfl, gain_add]
    omega
end
end Go.Proofs.YtjpjikfmdaejeaaDoor
/-
  WHAT AddExpr AND BuildGraph HAND BACK.
-/
namespace Go.Proofs.YtjpjikfmdaejeaaDoor
set_option linter.unusedVariables false
set_option linter.unusedSimpArgs false
open Go.RowKit

/-- the graph with the expression's cells, the expression's cell, and whether there is one -/
def addOut (g : List Ce) (t : Tr) (xs : List Int) (defs : Int) : List Ce × Nat × Bool :=
  if graphB g defs = true ∧ validB t xs.length defs = true ∧ xs.all (isAt g.length) = true ∧ (addT (xs.map Int.toNat) t g).1.length ≤ 400 then ((addT (xs.map Int.toNat) t g).1, (addT (xs.map Int.toNat) t g).2, true) else ([], 0, false)
theorem addOut_yes {g : List Ce} {t : Tr} {xs : List Int} {defs : Int} (h1 : graphB g defs = true) (h2 : validB t xs.length defs = true) (h3 : xs.all (isAt g.length) = true) (h4 : (addT (xs.map Int.toNat) t g).1.length ≤ 400) : addOut g t xs defs = ((addT (xs.map Int.toNat) t g).1, (addT (xs.map Int.toNat) t g).2, true) := by
  unfold addOut; rw [if_pos ⟨h1, h2, h3, h4⟩]
theorem addOut_no {g : List Ce} {t : Tr} {xs : List Int} {defs : Int} (h : ¬ (graphB g defs = true ∧ validB t xs.length defs = true ∧ xs.all (isAt g.length) = true ∧ (addT (xs.map Int.toNat) t g).1.length ≤ 400)) : addOut g t xs defs = ([], 0, false) := by
  unfold addOut; rw [if_neg h]
/-- a closed expression fits an empty graph -/
theorem addOut_closed (t : Tr) (defs : Int) : addOut [] t [] defs = if validB t 0 defs = true then ((addT [] t []).1, (addT [] t []).2, true) else ([], 0, false) := by
  by_cases h : validB t 0 defs = true
  · rw [if_pos h]
    have h' := h
    unfold validB at h'
    simp only [Bool.and_eq_true, decide_eq_true_eq] at h'
    have hs := (addT_size [] t []).2.1
    refine addOut_yes ?_ h (by simp) (by simp only [List.map_nil, List.length_nil] at *; omega)
    unfold graphB
    simp
    omega
  · rw [if_neg h]
    exact addOut_no fun hh => h hh.2.1
/-- an answer: the row of cells and the operands' rows are new -/
def AddOut (o : List Ce × Nat × Bool) (w : World) (e : Ending) (w' : World) : Prop :=
  ∃ v, e = .returned (.tuple #[v, .int .i64 (o.2.1 : Int), .bool o.2.2]) ∧ OwnC w' w.heap.size (fun b => w.heap.size ≤ b) o.1 v ∧ Below w.heap.size w w'
theorem OwnC.zero {w : World} {lo b : Nat} {S : Nat → Prop} (h : w.heap[b]? = some (.cells #[] 64)) (hb : lo ≤ b) : OwnC w lo S [] (.slice (some ⟨b, 0, none⟩) 0 0) :=
  ⟨fun i h => absurd h (by simp), [], fun _ => 0, ⟨rfl, Or.inr ⟨b, 0, #[], rfl, hb, h, Nat.le_refl _, by simp [maxLen], rfl, rfl⟩⟩, fun j hj => absurd hj (by simp), fun i j hi _ => absurd hi (by simp)⟩
/-- the cells that stand for the variables -/
theorem args_back {xs : List Int} {n : Nat} (h : xs.all (isAt n) = true) : xs = (xs.map Int.toNat).map fun (a : Nat) => (a : Int) := by
  rw [List.map_map]
  refine List.ext_getElem (by simp) fun i h1 h2 => ?_
  have h3 := List.all_eq_true.1 h _ (List.getElem_mem h1)
  unfold isAt at h3
  simp at h3 ⊢
  omega
end Go.Proofs.YtjpjikfmdaejeaaDoor
/-
  PLAIN: what a step makes of a graph. No program is named here.
-/
namespace Go.Proofs.YtjpjikfmdaejeaaDoor
set_option linter.unusedVariables false
set_option linter.unusedSimpArgs false

/-! ### Spines of the applications of a spine -/
theorem spineN_mono {g : List Ce} : ∀ (n a : Nat) (x : Nat × List Nat), spineN g n a = some x → spineN g (n + 1) a = some x
  | 0, _, _, h => by simp [spineN] at h
  | n + 1, a, x, h => by
    unfold spineN at h ⊢
    cases hf : followN g g.length a with
    | none => rw [hf] at h; simp at h
    | some f =>
      rw [hf] at h
      simp only at h ⊢
      split
      · rename_i h4
        rw [if_pos h4] at h
        obtain ⟨y, h1, h2⟩ := Option.map_eq_some_iff.1 h
        rw [spineN_mono n _ y h1]
        simp [h2]
      · rename_i h4
        rw [if_neg h4] at h
        exact h
theorem spineN_more {g : List Ce} {n a : Nat} {x : Nat × List Nat} (h : spineN g n a = some x) : ∀ m, n ≤ m → spineN g m a = some x := by
  intro m hm
  induction m with
  | zero => obtain rfl : n = 0 := by omega
            exact h
  | succ m ih =>
    rcases Nat.lt_or_ge n (m + 1) with h1 | h1
    · exact spineN_mono _ _ _ (ih (by omega))
    · obtain rfl : n = m + 1 := by omega
      exact h
theorem follow_self {g : List Ce} {f : Nat} (hf : f < g.length) (h11 : opAt g f ≠ 11) : followN g g.length f = some f := by
  obtain ⟨n, hn⟩ : ∃ n, g.length = n + 1 := ⟨g.length - 1, by omega⟩
  rw [hn]; exact followN_stop h11
theorem spineN_drop {g : List Ce} {defs : Int} (hg : graphB g defs = true) : ∀ (n a f : Nat) (l : List Nat), a < g.length → spineN g n a = some (f, l) → ∀ q (hq : q < l.length), spineN g n l[q] = some (f, l.drop q)
  | 0, _, _, _, _, h, _, _ => by simp [spineN] at h
  | n + 1, a, f, l, ha, h, q, hq => by
    unfold spineN at h
    cases hf : followN g g.length a with
    | none => rw [hf] at h; simp at h
    | some b =>
      rw [hf] at h
      have hb := followN_lt hg _ _ _ ha hf
      simp only at h
      split at h
      · rename_i h4
        obtain ⟨⟨f', l'⟩, h1, h2⟩ := Option.map_eq_some_iff.1 h
        simp only [Prod.mk.injEq] at h2
        obtain ⟨rfl, rfl⟩ := h2
        have hk : kidAt g b 0 < g.length := by
          refine (kidAt_get hg b hb.1 0 ?_).2
          have := kids_count hg b hb.1
          rw [opAt_at b hb.1] at h4
          rw [h4] at this
          have e : cArity 4 = 2 := by decide
          omega
        cases q with
        | zero =>
          simp only [List.getElem_cons_zero, List.drop_zero]
          unfold spineN
          rw [follow_self hb.1 hb.2]
          simp only [h4, if_true, h1, Option.map_some]
        | succ q =>
          simp only [List.getElem_cons_succ, List.drop_succ_cons]
          exact spineN_mono _ _ _ (spineN_drop hg n _ _ _ hk h1 q (by simpa using hq))
      · simp only [Option.some.injEq, Prod.mk.injEq] at h
        obtain ⟨rfl, rfl⟩ := h
        simp at hq
theorem spine_drop {g : List Ce} {defs : Int} (hg : graphB g defs = true) {a f : Nat} {l : List Nat} (ha : a < g.length) (h : spine g a = some (f, l)) (q : Nat) (hq : q < l.length) : spine g l[q] = some (f, l.drop q) := spineN_drop hg _ _ _ _ ha h q hq

/-! ### Redexes are ready -/
/-- a call with just its arguments -/
def CallReady (ds : List Df) (g : List Ce) (at' : Nat) : Prop := (opAt g at' = 3 ∨ opAt g at' = 4) ∧ ∃ (f : Nat) (l : List Nat) (n : Nat), spine g at' = some (f, l) ∧ opAt g f = 3 ∧ numAt g f = (n : Int) ∧ ∃ h : n < ds.length, ds[n].1 = (l.length : Int)
def OpReady (g : List Ce) (at' : Nat) : Prop :=
  ((opAt g at' = 6 ∨ opAt g at' = 7) ∧ ∃ b, followN g g.length (kidAt g at' 0) = some b ∧ opAt g b = 5) ∨
  (opAt g at' = 10 ∧ ∃ b, followN g g.length (kidAt g at' 0) = some b ∧ opAt g b = 2) ∨
  ((opAt g at' = 8 ∨ opAt g at' = 9) ∧ (∃ b, followN g g.length (kidAt g at' 0) = some b ∧ opAt g b = 2) ∧ ∃ b, followN g g.length (kidAt g at' 1) = some b ∧ opAt g b = 2)
def Ready (ds : List Df) (g : List Ce) (at' : Nat) : Prop := at' < g.length ∧ (CallReady ds g at' ∨ OpReady g at')
theorem waitOne_none {ars : List Int} {g : List Ce} {k : Nat} {kind : Int} {r : Option (Option Nat)} (h : waitOne ars g k kind r = some none) : (∃ b, followN g g.length k = some b ∧ opAt g b = kind) ∧ r = some none := by
  unfold waitOne at h
  split at h
  · simp at h
  · split at h
    · rename_i h2
      unfold kindOf at h2
      obtain ⟨b, h3, h4⟩ := Option.map_eq_some_iff.1 h2
      exact ⟨⟨b, h3, h4⟩, h⟩
    · cases h
theorem redexN_ready {ds : List Df} {g : List Ce} (hg : graphB g ds.length = true) (hp : progB ds = true) : ∀ (n a at' : Nat), a < g.length → valB (arsOf ds) g a = false → redexN (arsOf ds) g n a = some at' → Ready ds g at'
  | 0, _, _, _, _, h => by simp [redexN] at h
  | n + 1, a, at', ha, hv, h => by
    cases hs : spine g a with
    | none => rw [redexN_none hs] at h; cases h
    | some x =>
      obtain ⟨f, l⟩ := x
      have hok := spine_ok hg ha hs
      have hff := hok.1
      have hop := opAt_at f hff
      by_cases h3 : opAt g f = 3
      · rw [redexN_glob hs h3] at h
        obtain ⟨nn, hn, hnl⟩ := glob_num hg f hff (by rw [← hop]; exact h3)
        have hnl' : nn < ds.length := by omega
        have hna : numAt g f = (nn : Int) := by rw [numAt_at f hff]; exact hn
        have hle := call_idx (n := nn) hs h3 hna hnl' hv
        have h0 := prog_ar hp nn hnl'
        rw [hna, arOf_at ds nn hnl'] at h
        obtain ⟨ar, har⟩ : ∃ ar : Nat, ds[nn].1 = (ar : Int) := ⟨ds[nn].1.toNat, by omega⟩
        rw [har] at h hle
        simp only [Option.some.injEq] at h
        by_cases hz : ar = 0
        · subst hz
          rw [Int.ofNat_zero, callAt_zero] at h
          subst h
          exact ⟨hff, Or.inl ⟨Or.inl h3, f, [], nn, spine_self hff hok.2.1 hok.2.2.1, h3, hna, hnl', har⟩⟩
        · obtain ⟨q, hq⟩ : ∃ q, q + ar = l.length := ⟨l.length - ar, by omega⟩
          have hql : q < l.length := by omega
          rw [callAt_at hz hq] at h
          subst h
          have hm := hok.2.2.2.1 l[q] (List.getElem_mem hql)
          refine ⟨hm.1, Or.inl ⟨Or.inr hm.2, f, l.drop q, nn, spine_drop hg ha hs q hql, h3, hna, hnl', ?_⟩⟩
          rw [har, List.length_drop]; omega
      · by_cases h25 : opAt g f = 2 ∨ opAt g f = 5
        · rw [redexN_val hs h25] at h; cases h
        · rw [redexN_op hs h3 (by omega) (by omega)] at h
          have hk := op_kinds hg f hff (by rw [← hop]; exact hok.2.1) (by rw [← hop]; exact hok.2.2.1) (by rw [← hop]; omega) (by rw [← hop]; exact h3) (by rw [← hop]; omega)
          rw [← hop] at hk
          cases hw : waits (arsOf ds) g f with
          | none => rw [hw] at h; cases h
          | some o =>
            cases o with
            | none =>
              rw [hw] at h
              simp only [Option.some.injEq] at h
              subst h
              refine ⟨hff, Or.inr ?_⟩
              by_cases h67 : opAt g f = 6 ∨ opAt g f = 7
              · rw [waits1 h67] at hw
                exact Or.inl ⟨h67, (waitOne_none hw).1⟩
              · by_cases h10 : opAt g f = 10
                · rw [waits10 h10] at hw
                  exact Or.inr (Or.inl ⟨h10, (waitOne_none hw).1⟩)
                · have h89 : opAt g f = 8 ∨ opAt g f = 9 := by omega
                  rw [waits2 h89] at hw
                  have h1 := waitOne_none hw
                  exact Or.inr (Or.inr ⟨h89, h1.1, (waitOne_none h1.2).1⟩)
            | some k =>
              rw [hw] at h
              have hwk : k < g.length ∧ valB (arsOf ds) g k = false := by
                have hmany : manyOf (opAt g f) ≤ g[f].kids.length := by
                  have h2 := hk.2
                  have h1 := hk.1
                  unfold manyOf
                  split at h2 <;> (try split at h2) <;> split <;> omega
                rw [waits_list hk.1] at hw
                obtain ⟨m1, m2⟩ := waitsL_some _ hw
                simp only [List.mem_map, List.mem_range] at m1
                obtain ⟨j, hj, rfl⟩ := m1
                exact ⟨(kidAt_get hg f hff j (by omega)).2, m2⟩
              exact redexN_ready hg hp n k at' hwk.1 hwk.2 h
theorem redex_ready {ds : List Df} {g : List Ce} (hg : graphB g ds.length = true) (hp : progB ds = true) {a at' : Nat} (ha : a < g.length) (hv : valB (arsOf ds) g a = false) (h : redex (arsOf ds) g a = some at') : Ready ds g at' := redexN_ready hg hp _ _ _ ha hv h

/-! ### What a step makes -/
def argsL (g : List Ce) (l : List Nat) : List Nat := (l.map fun a => kidAt g a 1).reverse
def indTo (k : Nat) : Ce := ⟨11, 0, [(k : Int)]⟩
def numC (n : Int) : Ce := ⟨2, n, []⟩
def numberOf (op a b : Int) : Int := if op = 9 then (a + (1000 - b)) % 1000 else (a + b) % 1000
def folAt (g : List Ce) (k : Nat) : Nat := (followN g g.length k).getD 0
theorem folAt_some {g : List Ce} {k b : Nat} (h : followN g g.length k = some b) : folAt g k = b := by unfold folAt; rw [h]; rfl
def bodyAt (ds : List Df) (n : Int) : Tr := (ds.getD n.toNat (0, .node 0 0 [])).2
def callR (ds : List Df) (g : List Ce) (at' : Nat) : List Ce × Nat := match spine g at' with
  | none => (g, 0)
  | some (f, l) => addT (argsL g l) (bodyAt ds (numAt g f)) g
def callG (ds : List Df) (g : List Ce) (at' : Nat) : List Ce × Nat := if (callR ds g at').1.length ≤ 400 then ((callR ds g at').1.set at' (indTo (callR ds g at').2), 0) else (g, 3)
def opCell (g : List Ce) (at' : Nat) : Ce :=
  if opAt g at' = 6 then indTo (kidAt g (folAt g (kidAt g at' 0)) 0)
  else if opAt g at' = 7 then indTo (kidAt g (folAt g (kidAt g at' 0)) 1)
  else if opAt g at' = 10 then indTo (if numAt g (folAt g (kidAt g at' 0)) = 0 then kidAt g at' 1 else kidAt g at' 2)
  else numC (numberOf (opAt g at') (numAt g (folAt g (kidAt g at' 0))) (numAt g (folAt g (kidAt g at' 1))))
def changeG (ds : List Df) (g : List Ce) (at' : Nat) : List Ce × Nat := if opAt g at' = 3 ∨ opAt g at' = 4 then callG ds g at' else (g.set at' (opCell g at'), 0)
def stepG (ds : List Df) (g : List Ce) (a : Nat) : List Ce × Nat := match redex (arsOf ds) g a with
  | none => (g, 2)
  | some at' => changeG ds g at'
/-- steps until there is a value: the graph, the code and the number of steps -/
def evalG (ds : List Df) (a : Nat) : Nat → List Ce → List Ce × Nat × Nat
  | 0, g => if valB (arsOf ds) g a = true then (g, 0, 0) else (g, 1, 0)
  | n + 1, g => if valB (arsOf ds) g a = true then (g, 0, 0) else if (stepG ds g a).2 = 0 then ((evalG ds a n (stepG ds g a).1).1, (evalG ds a n (stepG ds g a).1).2.1, (evalG ds a n (stepG ds g a).1).2.2 + 1) else (g, (stepG ds g a).2, 0)
end Go.Proofs.YtjpjikfmdaejeaaDoor

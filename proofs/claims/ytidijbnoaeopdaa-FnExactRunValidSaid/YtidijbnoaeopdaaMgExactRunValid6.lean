/-
  WHAT THE READING OF AN ARGUMENT GIVES: a graph of the laws' own type is a list of cells in memory.
-/
import Derived.Test.YtidijbnoaeopdaaMgExactRunValid5
import Derived.Test.YtidijbnoaeopdaaProg
namespace Go.Proofs.Ytidijbnoaeopdaa
open Go.RowKit
set_option linter.unusedVariables false
set_option linter.unusedSimpArgs false
section
variable {H : Type} {enc : TypeId × Value → H} {w : World} {base : Nat} {spare : Nat → Bool} {held : Bool}

theorem trod_ints (fuel : Nat) (v : Value) (x : DataW H × List MemPlace) (h : DataW.trod enc Try.prog w base spare held fuel 84 [v] = some x) : ∃ xs, IIn w xs v := by
  have hC : Try.prog.cellsOf 3 = 1 := by kernel_rfl
  rcases DataW.trod_slice Try.underlying84 h with ⟨h0', _⟩ | ⟨a, len, cap, elems, rest, n, hfu, hv, _, hb, hl, hm, hlen, hel, _, _⟩
  · simp only [List.cons.injEq, and_true] at h0'
    exact ⟨[], none, 0, h0', by simp, by simp [maxLen], Or.inl rfl⟩
  · simp only [List.cons.injEq, and_true] at hv
    have key : ∀ i, i < len → ∃ z : Int, w.cell? (a.add (i * 1)) = some (.int .i64 z) := by
      intro i hi
      have hh := hel i hi
      rw [hC] at hh
      obtain ⟨cs, hcs, hd⟩ := Option.bind_eq_some_iff.1 (hh.trans (List.getElem?_eq_getElem (by omega)))
      obtain ⟨_, hl1, hcell⟩ := World.cells?_some hcs
      obtain ⟨p, rfl⟩ : ∃ p, cs = [p] := by
        match cs, hl1 with
        | [p], _ => exact ⟨p, rfl⟩
      obtain ⟨z, e0, _, w0⟩ := DataW.trod_int Try.underlying3 hd
      simp only [List.cons.injEq, and_true] at e0
      have g0 := hcell 0 (by omega)
      exact ⟨z, by rw [← e0]; simpa [Addr.add] using g0⟩
    subst hv
    obtain ⟨f, hfk⟩ := Deep.choose_lt key
    refine ⟨(List.range len).map f, some a, cap, by simp, by simpa using hl, hm, ?_⟩
    by_cases hz : len = 0
    · left; simp [hz]
    right
    obtain ⟨bl, off, spot⟩ := a
    have g0 := hfk 0 (by omega)
    have hspot : spot = none := by simpa [Addr.add] using World.cell?_spot g0
    subst hspot
    refine ⟨bl, off, rfl, by have := cell_lt g0; simpa [Addr.add, Lt] using this, fun i hi => ?_⟩
    simp only [List.length_map, List.length_range] at hi
    have g0 := hfk i hi
    rw [WideShapes.add_plain, Nat.mul_one] at g0
    simpa using g0

theorem trod_lawCells (fuel : Nat) (v : Value) (x : DataW H × List MemPlace) (h : DataW.trod enc Try.prog w base spare held fuel 46 [v] = some x) : ∃ g, CIn w g v := by
  have hC : Try.prog.cellsOf 91 = 3 := by kernel_rfl
  have hC1 : Try.prog.cellsOf 3 = 1 := by kernel_rfl
  have hC2 : Try.prog.cellsOf 84 = 1 := by kernel_rfl
  rcases DataW.trod_slice Try.underlying46 h with ⟨h0', _⟩ | ⟨a, len, cap, elems, rest, n, hfu, hv, _, hb, hl, hm, hlen, hel, _, _⟩
  · simp only [List.cons.injEq, and_true] at h0'
    exact ⟨[], none, 0, h0', by simp, by simp [maxLen], Or.inl rfl⟩
  · simp only [List.cons.injEq, and_true] at hv
    have key : ∀ i, i < len → ∃ d : Ce, ∃ r, w.cell? (a.add (i * 3)) = some (.int .i64 d.op) ∧ w.cell? ((a.add (i * 3)).add 1) = some (.int .i64 d.num) ∧ w.cell? ((a.add (i * 3)).add 2) = some r ∧ I64 d.op ∧ I64 d.num ∧ IntsOn w (Lt w.heap.size) d.kids r := by
      intro i hi
      have hh := hel i hi
      rw [hC] at hh
      obtain ⟨cs, hcs, hd⟩ := Option.bind_eq_some_iff.1 (hh.trans (List.getElem?_eq_getElem (by omega)))
      obtain ⟨_, hl3, hcell⟩ := World.cells?_some hcs
      obtain ⟨p, q, r, rfl⟩ := list3 cs hl3
      obtain ⟨xs, m, hm1, _, _, hxl, hf⟩ := DataW.trod_struct Try.underlying91 hd
      obtain ⟨y0, y1, y2, rfl⟩ := list3 xs (by simpa using hxl)
      have hp := hf 0 _ rfl
      have hq := hf 1 _ rfl
      have hr := hf 2 _ rfl
      simp [hC1, hC2] at hp hq hr
      obtain ⟨no, e0, _, w0⟩ := DataW.trod_int Try.underlying3 hp
      obtain ⟨nn, e1, _, w1⟩ := DataW.trod_int Try.underlying3 hq
      simp only [List.cons.injEq, and_true] at e0 e1
      obtain ⟨xs, hxs⟩ := trod_ints m r y2 hr
      have g0 := hcell 0 (by omega)
      have g1 := hcell 1 (by omega)
      have g2 := hcell 2 (by omega)
      subst e0 e1
      exact ⟨⟨no, nn, xs⟩, r, by simpa [Addr.add] using g0, by simpa using g1, by simpa using g2, bounds_i64 w0, bounds_i64 w1, hxs⟩
    subst hv
    obtain ⟨f, hfk⟩ := Deep.choose_lt key
    refine ⟨(List.range len).map f, some a, cap, by simp, by simpa using hl, hm, ?_⟩
    by_cases hz : len = 0
    · left; simp [hz]
    right
    obtain ⟨bl, off, spot⟩ := a
    obtain ⟨r, g0, _⟩ := hfk 0 (by omega)
    have hspot : spot = none := by simpa [Addr.add] using World.cell?_spot g0
    subst hspot
    refine ⟨bl, off, rfl, by have := cell_lt g0; simpa [Addr.add, Lt] using this, fun i hi => ?_⟩
    simp only [List.length_map, List.length_range] at hi
    obtain ⟨r, g0, g1, g2, g3, g4, g5⟩ := hfk i hi
    rw [WideShapes.add_plain] at g0 g1 g2
    rw [WideShapes.add_plain] at g1 g2
    exact ⟨r, by simpa using g0, by simpa using g1, g2, by simpa using g3, by simpa using g4, by simpa using g5⟩
end
end Go.Proofs.Ytidijbnoaeopdaa
/-
  PLAIN FACTS ON GRAPHS: which lists of cells are graphs; where indirections lead. No program is named here.
-/
namespace Go.Proofs.Ytidijbnoaeopdaa
set_option linter.unusedVariables false
set_option linter.unusedSimpArgs false

/-- how many operands a kind of cell has -/
def cArity (op : Int) : Int := if op = 11 then 1 else arity op
/-- are these cells of a graph? -/
def isAt (cells : Int) (k : Int) : Bool := decide (0 ≤ k ∧ k < cells)
/-- has a cell the fields of its kind, whatever its operands? -/
def fitsB (defs : Int) (c : Ce) : Bool := decide ((c.kids.length : Int) = cArity c.op) && ownB c.op c.num 0 defs
/-- is it a cell of a graph with some cells? -/
def cellB (cells defs : Int) (c : Ce) : Bool := fitsB defs c && c.kids.all (isAt cells)
def graphB (g : List Ce) (defs : Int) : Bool := decide ((g.length : Int) ≤ 400 ∧ 0 ≤ defs ∧ defs ≤ 6) && g.all (cellB g.length defs)

theorem ownB_var (n defs : Int) : ownB 1 n 0 defs = false := by unfold ownB; rw [if_pos rfl, decide_eq_false]; omega
theorem allI_take_succ {α : Type} (p : α → Bool) (l : List α) (i : Nat) (h : i < l.length) : (l.take (i + 1)).all p = ((l.take i).all p && p l[i]) := by
  rw [List.take_succ_eq_append_getElem h, List.all_append]; simp
theorem allI_false_of {α : Type} (p : α → Bool) (l : List α) (i : Nat) (h : i < l.length) (hp : p l[i] = false) : l.all p = false := by
  rw [List.all_eq_false]; exact ⟨l[i], List.getElem_mem h, by simp [hp]⟩

/-! ### Indirections -/
/-- the first operand -/
def kid0 (c : Ce) : Int := c.kids.getD 0 0
/-- the cell for which a cell stands -/
def nxt (g : List Ce) (a : Nat) : Nat := (kid0 (g.getD a ⟨0, 0, []⟩)).toNat
def opAt (g : List Ce) (a : Nat) : Int := (g.getD a ⟨0, 0, []⟩).op
/-- the first cell that is no indirection, after at most n looks -/
def followN (g : List Ce) : Nat → Nat → Option Nat
  | 0, _ => none
  | n + 1, a => if opAt g a = 11 then followN g n (nxt g a) else some a
theorem pigeon : ∀ (n m : Nat) (f : Nat → Nat), (∀ i, i < m → f i < n) → (∀ i j, i < m → j < m → f i = f j → i = j) → m ≤ n
  | 0, m, f, hf, _ => by
    cases m with
    | zero => omega
    | succ m => exact absurd (hf 0 (by omega)) (by omega)
  | n + 1, 0, _, _, _ => by omega
  | n + 1, m + 1, f, hf, hi => by
    have := pigeon n m (fun i => if f i = n then f m else f i) (fun i h => by
      have h1 := hf i (by omega)
      have h2 := hf m (by omega)
      show (if f i = n then f m else f i) < n
      split
      · rename_i e
        have : f m ≠ n := fun e2 => by have := hi i m (by omega) (by omega) (by rw [e, e2]); omega
        omega
      · omega) (fun i j h1 h2 e => by
      have e : (if f i = n then f m else f i) = (if f j = n then f m else f j) := e
      split at e <;> split at e
      · rename_i a b; exact hi i j (by omega) (by omega) (by rw [a, b])
      · have := hi m j (by omega) (by omega) e; omega
      · have := hi i m (by omega) (by omega) e; omega
      · exact hi i j (by omega) (by omega) e)
    omega

theorem graphB_cell {g : List Ce} {defs : Int} (h : graphB g defs = true) (a : Nat) (ha : a < g.length) : cellB g.length defs g[a] = true := by
  unfold graphB at h
  simp only [Bool.and_eq_true, List.all_eq_true] at h
  exact h.2 _ (List.getElem_mem ha)
theorem graphB_len {g : List Ce} {defs : Int} (h : graphB g defs = true) : g.length ≤ 400 := by
  unfold graphB at h
  simp only [Bool.and_eq_true, decide_eq_true_eq] at h
  omega
theorem getD_at {α : Type} (g : List α) (d : α) (a : Nat) (ha : a < g.length) : g.getD a d = g[a] := by simp [ha]
/-- an indirection of a graph has one operand, a cell -/
theorem ind_kid {g : List Ce} {defs : Int} (h : graphB g defs = true) (a : Nat) (ha : a < g.length) (ho : g[a].op = 11) : ∃ k : Nat, g[a].kids = [(k : Int)] ∧ k < g.length ∧ nxt g a = k := by
  have hc := graphB_cell h a ha
  unfold cellB fitsB cArity at hc
  simp only [Bool.and_eq_true, decide_eq_true_eq, List.all_eq_true, isAt] at hc
  obtain ⟨⟨h1, -⟩, h3⟩ := hc
  rw [if_pos ho] at h1
  obtain ⟨x, hx⟩ : ∃ x, g[a].kids = [x] := by
    have h2 : g[a].kids.length = 1 := by omega
    revert h2
    generalize g[a].kids = l
    intro h2
    match l, h2 with
    | [x], _ => exact ⟨x, rfl⟩
  have h4 := h3 x (by rw [hx]; simp)
  refine ⟨x.toNat, by rw [hx]; simp; omega, by omega, ?_⟩
  unfold nxt kid0
  rw [getD_at _ _ _ ha, hx]
  rfl
theorem nxt_lt {g : List Ce} {defs : Int} (h : graphB g defs = true) (a : Nat) (ha : a < g.length) (ho : opAt g a = 11) : nxt g a < g.length := by
  unfold opAt at ho
  rw [getD_at _ _ _ ha] at ho
  obtain ⟨k, -, h2, h3⟩ := ind_kid h a ha ho
  omega
theorem followN_lt {g : List Ce} {defs : Int} (h : graphB g defs = true) : ∀ (n a b : Nat), a < g.length → followN g n a = some b → b < g.length ∧ opAt g b ≠ 11
  | 0, _, _, _, e => by simp [followN] at e
  | n + 1, a, b, ha, e => by
    unfold followN at e
    split at e
    · rename_i ho
      exact followN_lt h n _ b (nxt_lt h a ha ho) e
    · rename_i ho
      cases e
      exact ⟨ha, ho⟩
end Go.Proofs.Ytidijbnoaeopdaa
/-
  THE MODEL's l3Follow; nothing that was there is changed.
-/
namespace Go.Proofs.Ytidijbnoaeopdaa
set_option linter.unusedVariables false
set_option linter.unusedSimpArgs false
open Go.RowKit

theorem followN_stop {g : List Ce} {n a : Nat} (h : ¬ opAt g a = 11) : followN g (n + 1) a = some a := by rw [followN, if_neg h]
theorem opAt_at {g : List Ce} (a : Nat) (ha : a < g.length) : opAt g a = g[a].op := by unfold opAt; rw [getD_at _ _ _ ha]

end Go.Proofs.Ytidijbnoaeopdaa
/-
  PLAIN FACTS ON WHAT CAN BE REACHED IN A GRAPH: the two searches (marked when taken from the work, marked when added to it), each with what holds behind every step. No program is named here.
-/
namespace Go.Proofs.Ytidijbnoaeopdaa
set_option linter.unusedVariables false
set_option linter.unusedSimpArgs false

/-- the operands of a cell, as places -/
def kidsN (g : List Ce) (a : Nat) : List Nat := (g.getD a ⟨0, 0, []⟩).kids.map Int.toNat
inductive Reach (g : List Ce) (r : Nat) : Nat → Prop
  | root : Reach g r r
  | kid (a k : Nat) : Reach g r a → k ∈ kidsN g a → Reach g r k

theorem arity_le (op : Int) : cArity op ≤ 3 := by unfold cArity arity; repeat' split; all_goals omega
theorem kids_graph {g : List Ce} {defs : Int} (h : graphB g defs = true) (a : Nat) (ha : a < g.length) : g[a].kids.length ≤ 3 ∧ ∀ k ∈ g[a].kids, 0 ≤ k ∧ k < g.length := by
  have hc := graphB_cell h a ha
  unfold cellB fitsB at hc
  simp only [Bool.and_eq_true, decide_eq_true_eq, List.all_eq_true, isAt] at hc
  obtain ⟨⟨h1, -⟩, h3⟩ := hc
  have := arity_le g[a].op
  exact ⟨by omega, h3⟩
theorem kidsN_at {g : List Ce} (a : Nat) (ha : a < g.length) : kidsN g a = g[a].kids.map Int.toNat := by unfold kidsN; rw [getD_at _ _ _ ha]
theorem kidsN_lt {g : List Ce} {defs : Int} (h : graphB g defs = true) (a : Nat) (ha : a < g.length) (k : Nat) (hk : k ∈ kidsN g a) : k < g.length := by
  rw [kidsN_at a ha] at hk
  simp only [List.mem_map] at hk
  obtain ⟨x, hx, rfl⟩ := hk
  have := (kids_graph h a ha).2 x hx
  omega
/-- operand j, as a number -/
theorem kidsN_get {g : List Ce} {defs : Int} (h : graphB g defs = true) (a : Nat) (ha : a < g.length) (j : Nat) (hj : j < g[a].kids.length) : ∃ k : Nat, g[a].kids[j] = (k : Int) ∧ k < g.length ∧ (kidsN g a)[j]? = some k := by
  have h1 := (kids_graph h a ha).2 _ (List.getElem_mem hj)
  refine ⟨(g[a].kids[j]).toNat, by omega, by omega, ?_⟩
  rw [kidsN_at a ha]
  simp [hj]

def setF (f : Nat → Bool) (a : Nat) : Nat → Bool := fun b => if b = a then true else f b
theorem setF_same (f : Nat → Bool) (a : Nat) : setF f a a = true := by simp [setF]
theorem setF_inv {f : Nat → Bool} {a b : Nat} (h : setF f a b = true) : b = a ∨ f b = true := by
  unfold setF at h; split at h
  · left; assumption
  · right; exact h
/-! ### The model's search: marked when it is taken -/
structure SInv (g : List Ce) (r : Nat) (f : Nat → Bool) (work : List Nat) : Prop where
  rt : f r = true ∨ r ∈ work
  fl : ∀ a, f a = true → Reach g r a ∧ a < g.length
  wk : ∀ a ∈ work, Reach g r a ∧ a < g.length
  cl : ∀ a, f a = true → ∀ k ∈ kidsN g a, f k = true ∨ k ∈ work
theorem SInv.start (g : List Ce) (r : Nat) (hr : r < g.length) : SInv g r (fun _ => false) [r] where
  rt := Or.inr (by simp)
  fl := by intro a h; cases h
  wk := by intro a h; simp only [List.mem_singleton] at h; subst h; exact ⟨.root, hr⟩
  cl := by intro a h; cases h
theorem SInv.done {g : List Ce} {r : Nat} {f : Nat → Bool} (h : SInv g r f []) (a : Nat) : f a = true ↔ Reach g r a := by
  refine ⟨fun h1 => (h.fl a h1).1, fun h1 => ?_⟩
  induction h1 with
  | root => rcases h.rt with h1 | h1; exact h1; simp at h1
  | kid a k _ hk ih => rcases h.cl a ih k hk with h1 | h1; exact h1; simp at h1

/-! ### The program's search: marked when it is added -/
structure IInv (g : List Ce) (r : Nat) (f : Nat → Bool) (work : List Nat) : Prop where
  rt : f r = true
  fl : ∀ a, f a = true → Reach g r a ∧ a < g.length
  wk : ∀ a ∈ work, f a = true
  cl : ∀ a, f a = true → a ∈ work ∨ ∀ k ∈ kidsN g a, f k = true
/-- .. in the middle of the operands of a cell -/
structure MInv (g : List Ce) (r : Nat) (f : Nat → Bool) (work : List Nat) (at' j : Nat) : Prop where
  rt : f r = true
  fl : ∀ a, f a = true → Reach g r a ∧ a < g.length
  wk : ∀ a ∈ work, f a = true
  me : f at' = true
  cl : ∀ a, f a = true → a ∈ work ∨ a = at' ∨ ∀ k ∈ kidsN g a, f k = true
  js : ∀ i, i < j → ∀ k, (kidsN g at')[i]? = some k → f k = true
theorem IInv.start (g : List Ce) (r : Nat) (hr : r < g.length) : IInv g r (setF (fun _ => false) r) [r] where
  rt := setF_same _ _
  fl := by intro a h; rcases setF_inv h with rfl | h; exact ⟨.root, hr⟩; cases h
  wk := by intro a h; simp only [List.mem_singleton] at h; subst h; exact setF_same _ _
  cl := by intro a h; rcases setF_inv h with rfl | h; exact Or.inl (by simp); cases h
theorem MInv.done {g : List Ce} {r a j : Nat} {f : Nat → Bool} {work : List Nat} (h : MInv g r f work a j) (hj : (kidsN g a).length ≤ j) : IInv g r f work where
  rt := h.rt
  fl := h.fl
  wk := h.wk
  cl := fun b hb => by
    rcases h.cl b hb with h1 | h1 | h1
    · exact Or.inl h1
    · subst h1
      refine Or.inr fun k hk => ?_
      obtain ⟨i, hi, e⟩ := List.mem_iff_getElem.1 hk
      exact h.js i (by omega) k (by rw [List.getElem?_eq_getElem hi, e])
    · exact Or.inr h1
theorem IInv.done {g : List Ce} {r : Nat} {f : Nat → Bool} (h : IInv g r f []) (a : Nat) : f a = true ↔ Reach g r a := by
  refine ⟨fun h1 => (h.fl a h1).1, fun h1 => ?_⟩
  induction h1 with
  | root => exact h.rt
  | kid a k _ hk ih => rcases h.cl a ih with h1 | h1; simp at h1; exact h1 k hk

end Go.Proofs.Ytidijbnoaeopdaa
/-
  PLAIN FACTS ON NESTED APPLICATIONS IN A GRAPH, VALUES AND REDEXES.
-/
namespace Go.Proofs.Ytidijbnoaeopdaa
set_option linter.unusedVariables false
set_option linter.unusedSimpArgs false

theorem kids_count {g : List Ce} {defs : Int} (h : graphB g defs = true) (a : Nat) (ha : a < g.length) : (g[a].kids.length : Int) = cArity g[a].op := by
  have hc := graphB_cell h a ha
  unfold cellB fitsB at hc
  simp only [Bool.and_eq_true, decide_eq_true_eq] at hc
  exact hc.1.1
/-- operand j of a cell, as a place -/
def kidAt (g : List Ce) (a j : Nat) : Nat := (kidsN g a).getD j 0
theorem kidAt_get {g : List Ce} {defs : Int} (h : graphB g defs = true) (a : Nat) (ha : a < g.length) (j : Nat) (hj : j < g[a].kids.length) : g[a].kids[j] = (kidAt g a j : Int) ∧ kidAt g a j < g.length := by
  obtain ⟨k, h1, h2, h3⟩ := kidsN_get h a ha j hj
  have e : kidAt g a j = k := by unfold kidAt; rw [List.getD_eq_getElem?_getD, h3]; rfl
  rw [e]; exact ⟨h1, h2⟩
/-- the function of nested applications and the cells of these, after at most n looks -/
def spineN (g : List Ce) : Nat → Nat → Option (Nat × List Nat)
  | 0, _ => none
  | n + 1, a => match followN g g.length a with
    | none => none
    | some f => if opAt g f = 4 then (spineN g n (kidAt g f 0)).map (fun x => (x.1, f :: x.2)) else some (f, [])
def spine (g : List Ce) (a : Nat) : Option (Nat × List Nat) := spineN g (g.length + 1) a

/-- what holds behind every look -/
structure SpRel (g : List Ce) (a : Nat) (ws : List Nat) (b : Nat) : Prop where
  eq : spine g a = (spineN g (g.length + 1 - ws.length) b).map fun x => (x.1, ws ++ x.2)
  len : ws.length ≤ g.length + 1
  lt : b < g.length
theorem SpRel.start {g : List Ce} {a : Nat} (h : a < g.length) : SpRel g a [] a := ⟨by unfold spine; simp, by simp, h⟩
theorem SpRel.none {g : List Ce} {a b : Nat} {ws : List Nat} (h : SpRel g a ws b) (hl : ws.length ≤ g.length) (hf : followN g g.length b = .none) : spine g a = .none := by
  rw [h.eq, show g.length + 1 - ws.length = (g.length - ws.length) + 1 by omega, spineN, hf]; rfl
theorem SpRel.out {g : List Ce} {a b : Nat} {ws : List Nat} (h : SpRel g a ws b) (hl : g.length < ws.length) : spine g a = .none := by
  rw [h.eq, show g.length + 1 - ws.length = 0 by omega, spineN]; rfl
theorem SpRel.fin {g : List Ce} {a b f : Nat} {ws : List Nat} (h : SpRel g a ws b) (hl : ws.length ≤ g.length) (hf : followN g g.length b = some f) (ho : ¬ opAt g f = 4) : spine g a = some (f, ws) := by
  rw [h.eq, show g.length + 1 - ws.length = (g.length - ws.length) + 1 by omega, spineN, hf]
  simp [ho]
theorem SpRel.next {g : List Ce} {defs : Int} {a b f : Nat} {ws : List Nat} (h : SpRel g a ws b) (hg : graphB g defs = true) (hl : ws.length ≤ g.length) (hf : followN g g.length b = some f) (ho : opAt g f = 4) : SpRel g a (ws ++ [f]) (kidAt g f 0) := by
  have hfl := (followN_lt hg _ _ _ h.lt hf).1
  refine ⟨?_, by simp; omega, (kidAt_get hg f hfl 0 ?_).2⟩
  · rw [h.eq, show g.length + 1 - ws.length = (g.length - ws.length) + 1 by omega, spineN, hf]
    simp only [ho, if_true, List.length_append, List.length_cons, List.length_nil, Nat.zero_add]
    rw [show g.length + 1 - (ws.length + 1) = g.length - ws.length by omega, Option.map_map]
    congr 1
    funext x
    simp
  · have := kids_count hg f hfl
    rw [opAt_at f hfl] at ho
    rw [ho] at this
    have e : cArity 4 = 2 := by decide
    omega
theorem spineN_ok {g : List Ce} {defs : Int} (hg : graphB g defs = true) : ∀ (n a f : Nat) (l : List Nat), a < g.length → spineN g n a = some (f, l) → f < g.length ∧ opAt g f ≠ 4 ∧ opAt g f ≠ 11 ∧ (∀ k ∈ l, k < g.length ∧ opAt g k = 4) ∧ l.length < n
  | 0, _, _, _, _, e => by simp [spineN] at e
  | n + 1, a, f, l, ha, e => by
    unfold spineN at e
    cases hf : followN g g.length a with
    | none => rw [hf] at e; simp at e
    | some b =>
      rw [hf] at e
      have hb := followN_lt hg _ _ _ ha hf
      simp only at e
      split at e
      · rename_i h4
        obtain ⟨⟨f', l'⟩, h1, h2⟩ := Option.map_eq_some_iff.1 e
        simp only [Prod.mk.injEq] at h2
        obtain ⟨rfl, rfl⟩ := h2
        have hk : kidAt g b 0 < g.length := by
          refine (kidAt_get hg b hb.1 0 ?_).2
          have := kids_count hg b hb.1
          rw [opAt_at b hb.1] at h4
          rw [h4] at this
          have e : cArity 4 = 2 := by decide
          omega
        obtain ⟨r1, r2, r3, r4, r5⟩ := spineN_ok hg n _ _ _ hk h1
        refine ⟨r1, r2, r3, fun k hk => ?_, by simp; omega⟩
        rcases List.mem_cons.1 hk with rfl | hk
        · exact ⟨hb.1, h4⟩
        · exact r4 k hk
      · rename_i h4
        simp only [Option.some.injEq, Prod.mk.injEq] at e
        obtain ⟨rfl, rfl⟩ := e
        exact ⟨hb.1, h4, hb.2, by simp, by simp⟩
theorem spine_ok {g : List Ce} {defs : Int} (hg : graphB g defs = true) {a f : Nat} {l : List Nat} (ha : a < g.length) (h : spine g a = some (f, l)) : f < g.length ∧ opAt g f ≠ 4 ∧ opAt g f ≠ 11 ∧ (∀ k ∈ l, k < g.length ∧ opAt g k = 4) ∧ l.length ≤ g.length := by
  obtain ⟨r1, r2, r3, r4, r5⟩ := spineN_ok hg _ _ _ _ ha h
  exact ⟨r1, r2, r3, r4, by omega⟩
/-- a cell that is neither an application nor an indirection is its own function -/
theorem spine_self {g : List Ce} {f : Nat} (hf : f < g.length) (h4 : opAt g f ≠ 4) (h11 : opAt g f ≠ 11) : spine g f = some (f, []) := by
  unfold spine spineN
  have e : followN g g.length f = some f := by
    obtain ⟨n, hn⟩ : ∃ n, g.length = n + 1 := ⟨g.length - 1, by omega⟩
    rw [hn]; exact followN_stop h11
  rw [e]; simp [h4]

/-! ### Values -/
def numAt (g : List Ce) (a : Nat) : Int := (g.getD a ⟨0, 0, []⟩).num
theorem numAt_at {g : List Ce} (a : Nat) (ha : a < g.length) : numAt g a = g[a].num := by unfold numAt; rw [getD_at _ _ _ ha]
/-- the arity of a function -/
def arOf (ars : List Int) (n : Int) : Int := (ars[n.toNat]?).getD 0
/-- does a cell stand for a value? -/
def valB (ars : List Int) (g : List Ce) (a : Nat) : Bool := match spine g a with
  | none => false
  | some (f, l) => if opAt g f = 2 ∨ opAt g f = 5 then decide (l.length = 0) else decide (opAt g f = 3) && decide ((l.length : Int) < arOf ars (numAt g f))

/-! ### Redexes -/
/-- the application of a function to as many cells as its arity says -/
def callAt (f : Nat) (l : List Nat) (ar : Int) : Nat := if ar = 0 then f else l.getD (l.length - ar.toNat) 0
/-- the kind of the cell for which a cell stands -/
def kindOf (g : List Ce) (a : Nat) : Option Int := (followN g g.length a).map (opAt g)
/-- does a step wait for an operand? none: it is stuck; some (some k): for k -/
def waitOne (ars : List Int) (g : List Ce) (k : Nat) (kind : Int) (rest : Option (Option Nat)) : Option (Option Nat) :=
  if valB ars g k = false then some (some k) else if kindOf g k = some kind then rest else none
def waits (ars : List Int) (g : List Ce) (f : Nat) : Option (Option Nat) :=
  if opAt g f = 6 ∨ opAt g f = 7 then waitOne ars g (kidAt g f 0) 5 (some none)
  else if opAt g f = 10 then waitOne ars g (kidAt g f 0) 2 (some none)
  else waitOne ars g (kidAt g f 0) 2 (waitOne ars g (kidAt g f 1) 2 (some none))
/-- the redex of a cell that stands for no value, after at most n operands -/
def redexN (ars : List Int) (g : List Ce) : Nat → Nat → Option Nat
  | 0, _ => none
  | n + 1, a => match spine g a with
    | none => none
    | some (f, l) =>
      if opAt g f = 3 then some (callAt f l (arOf ars (numAt g f)))
      else if opAt g f = 2 ∨ opAt g f = 5 then none
      else match waits ars g f with
        | none => none
        | some none => some f
        | some (some k) => redexN ars g n k
def redex (ars : List Int) (g : List Ce) (a : Nat) : Option Nat := redexN ars g (g.length + 1) a
end Go.Proofs.Ytidijbnoaeopdaa

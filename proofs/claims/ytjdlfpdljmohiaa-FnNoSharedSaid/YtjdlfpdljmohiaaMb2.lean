/-
  PLAIN FACTS ON WHAT CAN BE REACHED IN A GRAPH: the two searches (marked when taken from the work, marked when added to it), each with what holds behind every step. No program is named here.
-/
import Derived.Test.YtjdlfpdljmohiaaMb1
import Derived.Laws.AppendOwn
import Derived.Laws.AppendOwnNone
import Derived.Deep.DeepCutAuto
import Derived.Deep.RegionWith
import Derived.Deep.RegionHeld3
namespace Go.Proofs.Ytjdlfpdljmohiaa
set_option linter.unusedVariables false
set_option linter.unusedSimpArgs false

/-- the operands of a cell, as places -/
def kidsN (g : List Ce) (a : Nat) : List Nat := (g.getD a ⟨0, 0, []⟩).kids.map Int.toNat
inductive Reach (g : List Ce) (r : Nat) : Nat → Prop
  | root : Reach g r r
  | kid (a k : Nat) : Reach g r a → k ∈ kidsN g a → Reach g r k

theorem arity_le (op : Int) : cArity op ≤ 3 := by unfold cArity arity; repeat' split; all_goals omega
theorem kids_graph {g : List Ce} {defs : Int} (h : graphB g defs = true) (a : Nat) (ha : a < g.length) : g[a].kids.length ≤ 3 ∧ ∀ k ∈ g[a].kids, 0 ≤ k ∧ k < g.length := by
  have hc := graphB_cell h a ha
  unfold cellB fitsB at hc
  simp only [Bool.and_eq_true, decide_eq_true_eq, List.all_eq_true, isAt] at hc
  obtain ⟨⟨h1, -⟩, h3⟩ := hc
  have := arity_le g[a].op
  exact ⟨by omega, h3⟩
theorem kidsN_at {g : List Ce} (a : Nat) (ha : a < g.length) : kidsN g a = g[a].kids.map Int.toNat := by unfold kidsN; rw [getD_at _ _ _ ha]
theorem kidsN_len {g : List Ce} {defs : Int} (h : graphB g defs = true) (a : Nat) (ha : a < g.length) : (kidsN g a).length ≤ 3 := by rw [kidsN_at a ha]; simpa using (kids_graph h a ha).1
theorem kidsN_lt {g : List Ce} {defs : Int} (h : graphB g defs = true) (a : Nat) (ha : a < g.length) (k : Nat) (hk : k ∈ kidsN g a) : k < g.length := by
  rw [kidsN_at a ha] at hk
  simp only [List.mem_map] at hk
  obtain ⟨x, hx, rfl⟩ := hk
  have := (kids_graph h a ha).2 x hx
  omega
/-- operand j, as a number -/
theorem kidsN_get {g : List Ce} {defs : Int} (h : graphB g defs = true) (a : Nat) (ha : a < g.length) (j : Nat) (hj : j < g[a].kids.length) : ∃ k : Nat, g[a].kids[j] = (k : Int) ∧ k < g.length ∧ (kidsN g a)[j]? = some k := by
  have h1 := (kids_graph h a ha).2 _ (List.getElem_mem hj)
  refine ⟨(g[a].kids[j]).toNat, by omega, by omega, ?_⟩
  rw [kidsN_at a ha]
  simp [hj]

def setF (f : Nat → Bool) (a : Nat) : Nat → Bool := fun b => if b = a then true else f b
theorem setF_same (f : Nat → Bool) (a : Nat) : setF f a a = true := by simp [setF]
theorem setF_of {f : Nat → Bool} {a b : Nat} (h : f b = true) : setF f a b = true := by unfold setF; split <;> simp_all
theorem setF_inv {f : Nat → Bool} {a b : Nat} (h : setF f a b = true) : b = a ∨ f b = true := by
  unfold setF at h; split at h
  · left; assumption
  · right; exact h
/-- how many places are not marked yet -/
def unset (f : Nat → Bool) : Nat → Nat
  | 0 => 0
  | n + 1 => unset f n + if f n then 0 else 1
theorem unset_le (f : Nat → Bool) : ∀ n, unset f n ≤ n
  | 0 => Nat.le_refl _
  | n + 1 => by have := unset_le f n; unfold unset; split <;> omega
theorem unset_out (f : Nat → Bool) (a : Nat) : ∀ n, n ≤ a → unset (setF f a) n = unset f n
  | 0, _ => rfl
  | n + 1, h => by
    have e : setF f a n = f n := by unfold setF; rw [if_neg (by omega)]
    unfold unset; rw [unset_out f a n (by omega), e]
theorem unset_set (f : Nat → Bool) (a : Nat) (hf : f a = false) : ∀ n, a < n → unset (setF f a) n + 1 = unset f n
  | 0, h => by omega
  | n + 1, h => by
    by_cases e : a = n
    · subst e
      unfold unset
      rw [unset_out f a a (Nat.le_refl _), setF_same, hf]
      simp
    · have e2 : setF f a n = f n := by unfold setF; rw [if_neg (by omega)]
      have := unset_set f a hf n (by omega)
      unfold unset; rw [e2]; omega

/-! ### The model's search: marked when it is taken -/
structure SInv (g : List Ce) (r : Nat) (f : Nat → Bool) (work : List Nat) : Prop where
  rt : f r = true ∨ r ∈ work
  fl : ∀ a, f a = true → Reach g r a ∧ a < g.length
  wk : ∀ a ∈ work, Reach g r a ∧ a < g.length
  cl : ∀ a, f a = true → ∀ k ∈ kidsN g a, f k = true ∨ k ∈ work
theorem SInv.start (g : List Ce) (r : Nat) (hr : r < g.length) : SInv g r (fun _ => false) [r] where
  rt := Or.inr (by simp)
  fl := by intro a h; cases h
  wk := by intro a h; simp only [List.mem_singleton] at h; subst h; exact ⟨.root, hr⟩
  cl := by intro a h; cases h
theorem SInv.old {g : List Ce} {r a : Nat} {f : Nat → Bool} {rest : List Nat} (h : SInv g r f (rest ++ [a])) (ha : f a = true) : SInv g r f rest where
  rt := by
    rcases h.rt with h1 | h1
    · exact Or.inl h1
    · rcases List.mem_append.1 h1 with h2 | h2
      · exact Or.inr h2
      · simp only [List.mem_singleton] at h2; subst h2; exact Or.inl ha
  fl := h.fl
  wk := fun b hb => h.wk b (List.mem_append_left _ hb)
  cl := fun b hb k hk => by
    rcases h.cl b hb k hk with h1 | h1
    · exact Or.inl h1
    · rcases List.mem_append.1 h1 with h2 | h2
      · exact Or.inr h2
      · simp only [List.mem_singleton] at h2; subst h2; exact Or.inl ha
theorem SInv.new {g : List Ce} {r a : Nat} {defs : Int} {f : Nat → Bool} {rest : List Nat} (hg : graphB g defs = true) (h : SInv g r f (rest ++ [a])) : SInv g r (setF f a) (rest ++ kidsN g a) := by
  have ha := h.wk a (List.mem_append_right _ (by simp))
  refine ⟨?_, fun b hb => ?_, fun b hb => ?_, fun b hb k hk => ?_⟩
  · rcases h.rt with h1 | h1
    · exact Or.inl (setF_of h1)
    · rcases List.mem_append.1 h1 with h2 | h2
      · exact Or.inr (List.mem_append_left _ h2)
      · simp only [List.mem_singleton] at h2; subst h2; exact Or.inl (setF_same _ _)
  · rcases setF_inv hb with rfl | h1
    · exact ha
    · exact h.fl b h1
  · rcases List.mem_append.1 hb with h1 | h1
    · exact h.wk b (List.mem_append_left _ h1)
    · exact ⟨.kid a b ha.1 h1, kidsN_lt hg a ha.2 b h1⟩
  · rcases setF_inv hb with rfl | h1
    · exact Or.inr (List.mem_append_right _ hk)
    · rcases h.cl b h1 k hk with h2 | h2
      · exact Or.inl (setF_of h2)
      · rcases List.mem_append.1 h2 with h3 | h3
        · exact Or.inr (List.mem_append_left _ h3)
        · simp only [List.mem_singleton] at h3; subst h3; exact Or.inl (setF_same _ _)
theorem SInv.done {g : List Ce} {r : Nat} {f : Nat → Bool} (h : SInv g r f []) (a : Nat) : f a = true ↔ Reach g r a := by
  refine ⟨fun h1 => (h.fl a h1).1, fun h1 => ?_⟩
  induction h1 with
  | root => rcases h.rt with h1 | h1; exact h1; simp at h1
  | kid a k _ hk ih => rcases h.cl a ih k hk with h1 | h1; exact h1; simp at h1

/-! ### The program's search: marked when it is added -/
structure IInv (g : List Ce) (r : Nat) (f : Nat → Bool) (work : List Nat) : Prop where
  rt : f r = true
  fl : ∀ a, f a = true → Reach g r a ∧ a < g.length
  wk : ∀ a ∈ work, f a = true
  cl : ∀ a, f a = true → a ∈ work ∨ ∀ k ∈ kidsN g a, f k = true
/-- .. in the middle of the operands of a cell -/
structure MInv (g : List Ce) (r : Nat) (f : Nat → Bool) (work : List Nat) (at' j : Nat) : Prop where
  rt : f r = true
  fl : ∀ a, f a = true → Reach g r a ∧ a < g.length
  wk : ∀ a ∈ work, f a = true
  me : f at' = true
  cl : ∀ a, f a = true → a ∈ work ∨ a = at' ∨ ∀ k ∈ kidsN g a, f k = true
  js : ∀ i, i < j → ∀ k, (kidsN g at')[i]? = some k → f k = true
theorem IInv.start (g : List Ce) (r : Nat) (hr : r < g.length) : IInv g r (setF (fun _ => false) r) [r] where
  rt := setF_same _ _
  fl := by intro a h; rcases setF_inv h with rfl | h; exact ⟨.root, hr⟩; cases h
  wk := by intro a h; simp only [List.mem_singleton] at h; subst h; exact setF_same _ _
  cl := by intro a h; rcases setF_inv h with rfl | h; exact Or.inl (by simp); cases h
theorem IInv.pop {g : List Ce} {r a : Nat} {f : Nat → Bool} {rest : List Nat} (h : IInv g r f (rest ++ [a])) : MInv g r f rest a 0 where
  rt := h.rt
  fl := h.fl
  wk := fun b hb => h.wk b (List.mem_append_left _ hb)
  me := h.wk a (List.mem_append_right _ (by simp))
  cl := fun b hb => by
    rcases h.cl b hb with h1 | h1
    · rcases List.mem_append.1 h1 with h2 | h2
      · exact Or.inl h2
      · simp only [List.mem_singleton] at h2; exact Or.inr (Or.inl h2)
    · exact Or.inr (Or.inr h1)
  js := fun i hi => absurd hi (by omega)
theorem MInv.old {g : List Ce} {r a j k : Nat} {f : Nat → Bool} {work : List Nat} (h : MInv g r f work a j) (hk : (kidsN g a)[j]? = some k) (hf : f k = true) : MInv g r f work a (j + 1) where
  rt := h.rt
  fl := h.fl
  wk := h.wk
  me := h.me
  cl := h.cl
  js := fun i hi x hx => by
    by_cases e : i = j
    · subst e; rw [hk] at hx; cases hx; exact hf
    · exact h.js i (by omega) x hx
theorem MInv.new {g : List Ce} {r a j k : Nat} {f : Nat → Bool} {work : List Nat} (h : MInv g r f work a j) (hk : (kidsN g a)[j]? = some k) (hl : k < g.length) : MInv g r (setF f k) (work ++ [k]) a (j + 1) where
  rt := setF_of h.rt
  fl := fun b hb => by
    rcases setF_inv hb with rfl | h1
    · exact ⟨.kid a b (h.fl a h.me).1 (List.mem_of_getElem? hk), hl⟩
    · exact h.fl b h1
  wk := fun b hb => by
    rcases List.mem_append.1 hb with h1 | h1
    · exact setF_of (h.wk b h1)
    · simp only [List.mem_singleton] at h1; subst h1; exact setF_same _ _
  me := setF_of h.me
  cl := fun b hb => by
    rcases setF_inv hb with rfl | h1
    · exact Or.inl (by simp)
    · rcases h.cl b h1 with h2 | h2 | h2
      · exact Or.inl (List.mem_append_left _ h2)
      · exact Or.inr (Or.inl h2)
      · exact Or.inr (Or.inr fun x hx => setF_of (h2 x hx))
  js := fun i hi x hx => by
    by_cases e : i = j
    · subst e; rw [hk] at hx; cases hx; exact setF_same _ _
    · exact setF_of (h.js i (by omega) x hx)
theorem MInv.done {g : List Ce} {r a j : Nat} {f : Nat → Bool} {work : List Nat} (h : MInv g r f work a j) (hj : (kidsN g a).length ≤ j) : IInv g r f work where
  rt := h.rt
  fl := h.fl
  wk := h.wk
  cl := fun b hb => by
    rcases h.cl b hb with h1 | h1 | h1
    · exact Or.inl h1
    · subst h1
      refine Or.inr fun k hk => ?_
      obtain ⟨i, hi, e⟩ := List.mem_iff_getElem.1 hk
      exact h.js i (by omega) k (by rw [List.getElem?_eq_getElem hi, e])
    · exact Or.inr h1
theorem IInv.done {g : List Ce} {r : Nat} {f : Nat → Bool} (h : IInv g r f []) (a : Nat) : f a = true ↔ Reach g r a := by
  refine ⟨fun h1 => (h.fl a h1).1, fun h1 => ?_⟩
  induction h1 with
  | root => exact h.rt
  | kid a k _ hk ih => rcases h.cl a ih with h1 | h1; simp at h1; exact h1 k hk

/-- marks that tell what can be reached -/
theorem reach_marks (g : List Ce) (r : Nat) : ∃ f : Nat → Bool, ∀ a, f a = true ↔ Reach g r a := by
  refine ⟨fun a => @decide (Reach g r a) (Classical.propDecidable _), fun a => ?_⟩
  simp
theorem marks_eq {g : List Ce} {r : Nat} {f f' : Nat → Bool} (h : ∀ a, f a = true ↔ Reach g r a) (h' : ∀ a, f' a = true ↔ Reach g r a) : f = f' := by
  funext a
  have e := (h a).trans (h' a).symm
  cases h1 : f a <;> cases h2 : f' a <;> simp_all

/-- the places that are marked, in their order -/
def numsN (f : Nat → Bool) : Nat → List Nat
  | 0 => []
  | n + 1 => if f n then numsN f n ++ [n] else numsN f n
theorem numsN_len (f : Nat → Bool) : ∀ n, (numsN f n).length ≤ n
  | 0 => by simp [numsN]
  | n + 1 => by have := numsN_len f n; unfold numsN; split <;> simp <;> omega
theorem numsN_yes {f : Nat → Bool} {n : Nat} (h : f n = true) : numsN f (n + 1) = numsN f n ++ [n] := by rw [numsN, if_pos h]
theorem numsN_no {f : Nat → Bool} {n : Nat} (h : f n = false) : numsN f (n + 1) = numsN f n := by rw [numsN, if_neg (by rw [h]; simp)]
def numsTo (f : Nat → Bool) (n : Nat) : List Int := (numsN f n).map fun (a : Nat) => (a : Int)
theorem numsTo_len (f : Nat → Bool) (n : Nat) : (numsTo f n).length ≤ n := by unfold numsTo; rw [List.length_map]; exact numsN_len f n
/-- what CellsFrom answers -/
def fromB (g : List Ce) (root : Int) (f : Nat → Bool) : List Int := if graphB g 6 = true ∧ isAt g.length root = true then numsTo f g.length else []
theorem fromB_len (g : List Ce) (root : Int) (f : Nat → Bool) : (fromB g root f).length ≤ g.length := by
  unfold fromB; split
  · exact numsTo_len f _
  · simp
theorem fromB_no {g : List Ce} {root : Int} {fl : Nat → Bool} (h : ¬ (graphB g 6 = true ∧ isAt g.length root = true)) : fromB g root fl = [] := by unfold fromB; rw [if_neg h]
theorem fromB_yes {g : List Ce} {root : Int} {fl : Nat → Bool} (h : graphB g 6 = true ∧ isAt g.length root = true) : fromB g root fl = numsTo fl g.length := by unfold fromB; rw [if_pos h]
theorem take_snoc {l : List Nat} {j k : Nat} (h : l[j]? = some k) : l.take (j + 1) = l.take j ++ [k] := by
  have hj := (List.getElem?_eq_some_iff.1 h).1
  have e := (List.getElem?_eq_some_iff.1 h).2
  rw [List.take_succ_eq_append_getElem hj, e]
end Go.Proofs.Ytjdlfpdljmohiaa
/-
  A STACK OF PLACES (a slice of ints that a call owns) AND MARKS (a row of bools).
-/
namespace Go.Proofs.Ytjdlfpdljmohiaa
set_option linter.unusedVariables false
set_option linter.unusedSimpArgs false
open Go.RowKit

theorem infoI1 : ∃ i z, Try.prog.info? 3 = some i ∧ i.zero = some z ∧ i.size = 1 ∧ i.bytes = 8 ∧ z.cells.size = 1 := by
  obtain ⟨i, hi, hzz⟩ := Option.map_eq_some_iff.1 infoI
  simp only [Prod.mk.injEq] at hzz
  obtain ⟨hz, hs, hb⟩ := hzz
  exact ⟨i, _, hi, hz, hs, hb, rfl⟩
/-- places, as numbers -/
def plI (ws : List Nat) : List Int := ws.map fun (a : Nat) => (a : Int)
theorem plI_length (ws : List Nat) : (plI ws).length = ws.length := by simp [plI]
/-- places, as values -/
def plV (ws : List Nat) : List Value := ws.map fun (a : Nat) => Value.int .i64 (a : Int)
theorem plV_length (ws : List Nat) : (plV ws).length = ws.length := by simp [plV]
theorem plV_one (ws : List Nat) : ∀ u ∈ plV ws, u.oneCell' = true := by
  intro u hu
  simp only [plV, List.mem_map] at hu
  obtain ⟨a, -, rfl⟩ := hu
  rfl
def Stk (w : World) (lo : Nat) (ws : List Nat) (v : Value) : Prop := w.ownsRow lo 3 1 v ws.length (plV ws)
theorem Stk.keep {w w' : World} {lo : Nat} {ws : List Nat} {v : Value} (h : Stk w lo ws v) (hk : ∀ k, lo ≤ k → k < w.heap.size → w'.heap[k]? = w.heap[k]?) : Stk w' lo ws v := by
  refine ⟨h.1, ?_⟩
  rcases h.2 with h | ⟨g, cap, cur, rfl, hg, hh, r⟩
  · exact Or.inl h
  · exact Or.inr ⟨g, cap, cur, rfl, hg, (hk g hg (Array.getElem?_eq_some_iff.1 hh).1).trans hh, r⟩
theorem Stk.top {w : World} {lo : Nat} {ws : List Nat} {a : Nat} {v : Value} (h : Stk w lo (ws ++ [a]) v) :
    ∃ g cap, v = .slice (some ⟨g, 0, none⟩) (ws.length + 1) cap ∧ lo ≤ g ∧ g < w.heap.size ∧ ws.length + 1 ≤ cap ∧ cap ≤ maxLen ∧ w.cell? ⟨g, ws.length, none⟩ = some (.int .i64 (a : Int)) ∧ Stk w lo ws (.slice (some ⟨g, 0, none⟩) ws.length cap) := by
  obtain ⟨h1, h2⟩ := h
  rcases h2 with ⟨-, h0⟩ | ⟨g, cap, cur, hv, hg, hh, hn, hc, hs, htk⟩
  · simp at h0
  · simp only [List.length_append, List.length_cons, List.length_nil, Nat.zero_add] at hv hn htk
    simp only [Nat.mul_one] at hs htk
    have hlt : ws.length < cur.size := by omega
    have e1 : (cur.toList.take (ws.length + 1))[ws.length]? = (plV (ws ++ [a]))[ws.length]? := by rw [htk]
    have e2 : cur.toList.take ws.length = plV ws := by
      have := congrArg (List.take ws.length) htk
      rw [List.take_take, Nat.min_eq_left (by omega)] at this
      rw [this]
      simp [plV]
    refine ⟨g, cap, hv, hg, (Array.getElem?_eq_some_iff.1 hh).1, hn, hc, ?_, by rw [plV_length]; omega, Or.inr ⟨g, cap, cur, rfl, hg, hh, by omega, hc, by omega, by rw [Nat.mul_one]; exact e2⟩⟩
    simp only [World.cell?, hh]
    rw [List.getElem?_take_of_lt (by omega)] at e1
    have e3 : (plV (ws ++ [a]))[ws.length]? = some (.int .i64 (a : Int)) := by simp [plV]
    rw [e3] at e1
    simpa using e1
theorem own_lo {w : World} {base n size : Nat} {e : TypeId} {v : Value} {xs : List Value} (h : w.ownsRow base e size v n xs) {k : Nat} (hk : some k = v.ownBlock) : base ≤ k := by
  rcases h.2 with ⟨rfl, -⟩ | ⟨g, cap, cur, rfl, hg, -⟩
  · simp [Value.ownBlock] at hk
  · simp only [Value.ownBlock, Option.some.injEq] at hk
    omega
theorem Stk.nil {w : World} {lo : Nat} {v : Value} {n : Nat} (h : Stk w lo [] v) : ∃ ad cap, v = .slice ad 0 cap := by
  rcases h.2 with ⟨rfl, -⟩ | ⟨g, cap, cur, rfl, -⟩
  · exact ⟨_, _, rfl⟩
  · exact ⟨_, _, rfl⟩
theorem Stk.len {w : World} {lo : Nat} {ws : List Nat} {v : Value} (h : Stk w lo ws v) : ∃ ad cap, v = .slice ad ws.length cap := by
  rcases h.2 with ⟨rfl, h0⟩ | ⟨g, cap, cur, rfl, -⟩
  · exact ⟨none, 0, by rw [h0]⟩
  · exact ⟨_, _, rfl⟩
/-- a new row of one place -/
theorem Stk.one (w : World) (lo : Nat) (a : Nat) (h : lo ≤ w.heap.size) : Stk (w.alloc (.cells #[.int .i64 (a : Int)] 3)) lo [a] (.slice (some ⟨w.heap.size, 0, none⟩) 1 1) :=
  ⟨rfl, Or.inr ⟨w.heap.size, 1, _, rfl, h, Deep.blk_alloc_new _ _, Nat.le_refl _, by simp [maxLen], rfl, rfl⟩⟩

theorem Stk.row {w : World} {lo : Nat} {ws : List Nat} {v : Value} (h : Stk w lo ws v) : IntRow w lo (ws.map fun (a : Nat) => (a : Int)) v := by
  rcases h.2 with ⟨rfl, h0⟩ | ⟨g, cap, cur, rfl, hg, hh, hn, hc, hs, htk⟩
  · obtain rfl : ws = [] := List.eq_nil_of_length_eq_zero h0
    exact IntRow.none _ _
  · rw [Nat.mul_one] at hs htk
    refine ⟨_, cap, by rw [List.length_map], by rw [List.length_map]; exact hn, hc, Or.inr ⟨g, fun i => cur.getD i undef, rfl, hg, ⟨cur, hh, hs, fun i hi => ?_⟩, fun i hi => ?_⟩⟩
    · have hi' : i < cur.size := by omega
      simp [Array.getD, hi']
    · rw [List.length_map] at hi
      have hi' : i < cur.size := by omega
      have e1 : (cur.toList.take ws.length)[i]? = (plV ws)[i]? := by rw [htk]
      rw [List.getElem?_take_of_lt hi] at e1
      have e2 : (plV ws)[i]? = some (.int .i64 (ws[i] : Int)) := by simp [plV, hi]
      rw [e2] at e1
      simp [Array.getD, hi'] at e1 ⊢
      exact e1
/-- one place in a new block, as a slice that is appended -/
theorem one_in (w : World) (a : Nat) : IIn (w.alloc (.cells #[.int .i64 (a : Int)] 3)) [(a : Int)] (.slice (some ⟨w.heap.size, 0, none⟩) 1 1) := by
  refine ⟨_, 1, rfl, Nat.le_refl _, by simp [maxLen], Or.inr ⟨_, 0, rfl, by show w.heap.size < _; rw [Deep.nblk_alloc]; omega, fun i hi => ?_⟩⟩
  obtain rfl : i = 0 := by simp at hi; omega
  exact box_cell w #[.int .i64 (a : Int)] 3 0 _ rfl
theorem Stk.alloc {w : World} {lo : Nat} {ws : List Nat} {v : Value} (h : Stk w lo ws v) (o : Obj) : Stk (w.alloc o) lo ws v := h.keep fun k _ hk => Deep.blk_alloc_lt _ _ _ hk

/-- the operands of a cell, as values -/
theorem ints_news {w : World} {xs : List Int} {ws : List Nat} {ad : Addr} {n cap : Nat} (h : IIn w xs (.slice (some ad) n cap)) (hx : xs = ws.map fun (a : Nat) => (a : Int)) : ∀ j u, (plV ws)[j]? = some u → w.cell? (ad.add j) = some u := by
  intro j u hu
  subst hx
  obtain ⟨ad', cap', he, -, -, hr⟩ := h
  simp only [Value.slice.injEq, Option.some.injEq] at he
  obtain ⟨rfl, -, -⟩ := he
  have hj : j < ws.length := by
    rcases Nat.lt_or_ge j ws.length with h | h
    · exact h
    · rw [List.getElem?_eq_none (by rw [plV_length]; exact h)] at hu; cases hu
  rcases hr with hnil | ⟨bl, off, e, -, hr⟩
  · simp at hnil; subst hnil; simp at hj
  · simp only [Option.some.injEq] at e
    subst e
    rw [WideShapes.add_plain]
    have := hr j (by simpa using hj)
    rw [this]
    simp [plV, hj] at hu
    simpa using hu
theorem kids_back {g : List Ce} {defs : Int} (h : graphB g defs = true) (a : Nat) (ha : a < g.length) : g[a].kids = (kidsN g a).map fun (a : Nat) => (a : Int) := by
  rw [kidsN_at a ha, List.map_map]
  refine List.ext_getElem (by simp) fun i h1 h2 => ?_
  have := (kids_graph h a ha).2 _ (List.getElem_mem h1)
  simp
  omega
theorem split_last {α : Type} (l : List α) (h : 0 < l.length) : ∃ r a, l = r ++ [a] := by
  have hne : l ≠ [] := by intro e; subst e; simp at h
  exact ⟨l.dropLast, l.getLast hne, (List.dropLast_concat_getLast hne).symm⟩

/-- append of places to a stack, out of any slice of ints -/
theorem run_push (w : World) (lo : Nat) (ws news : List Nat) (v x : Value) (ty : TypeId) (hst : Stk w lo ws v) {xs : List Int} (hx : IIn w xs x) (hxs : xs = news.map fun (a : Nat) => (a : Int)) (hlo : lo ≤ w.heap.size) (hb : ws.length + news.length ≤ 1048576) :
    ∃ v' w', (Builtin.append_ #[33, 33] ty #[v, x]).run Try.prog w = .ok v' w' ∧ Stk w' lo (ws ++ news) v' ∧ w.grownBy w' v.ownBlock := by
  obtain ⟨i, z, hi, hz, hs, hby, hzs⟩ := infoI1
  have hlen : xs.length = news.length := by rw [hxs]; simp
  have hx2 := hx
  obtain ⟨ad, cap, rfl, -, -, hr⟩ := hx2
  rcases ad with _ | ad
  · have hnil : news = [] := by
      rcases hr with h | ⟨_, _, h, -⟩
      · rw [h] at hlen; exact List.eq_nil_of_length_eq_zero hlen.symm
      · simp at h
    subst hnil
    rw [hlen]
    refine ⟨v, w, ?_, by simpa using hst, ⟨rfl, rfl, rfl, Nat.le_refl _, fun _ _ _ => rfl⟩⟩
    rcases hst.2 with ⟨rfl, h0⟩ | ⟨g, cap, cur, rfl, _, _, hnc, _⟩
    · simp [Builtin.append_, run_underlying Try.underlying33, sizeOf, typeInfo, hi, Builtin.lenOf, Builtin.firstCells]
    · simp [Builtin.append_, run_underlying Try.underlying33, sizeOf, typeInfo, hi, Builtin.lenOf, Builtin.firstCells, hnc, storeCells]
  · obtain ⟨v', w', hrun, hown, hg, -⟩ := run_append_own (P := Try.prog) w lo 33 ty 3 i z 1 8 Try.underlying33 hi hz hs hby hzs (by decide) v ws.length (plV ws) hst ad news.length cap (plV news) (by rw [plV_length, Nat.mul_one]) (ints_news hx hxs) (plV_one _) (by unfold maxLen; omega) (by omega) hlo
    rw [← hlen] at hrun
    refine ⟨v', w', hrun, ?_, hg⟩
    unfold Stk
    have e : plV (ws ++ news) = plV ws ++ plV news := by simp [plV]
    rw [e, List.length_append]
    exact hown
theorem wpList_push {ops : Array Oper} {rest : List Oper} {o : Oper} {a : Act} {Q : Exit → Act → World → Prop} (hgd : o.guard = none) (s x : Operand)
    (ho : o.op = .call { callee := .builtin .append, args := #[s, x], argTypes := #[33, 33] })
    (w : World) (lo : Nat) (ws news : List Nat) (v xv : Value) (hs : a.eval s = v) (hst : Stk w lo ws v) (hxe : a.eval x = xv) {xs : List Int} (hx : IIn w xs xv) (hxs : xs = news.map fun (a : Nat) => (a : Int)) (hlo : lo ≤ w.heap.size) (hb : ws.length + news.length ≤ 1048576)
    (h : ∀ v' w', Stk w' lo (ws ++ news) v' → w.grownBy w' v.ownBlock → wpList Try.prog ops Q rest (a.put o.dst v') w') : wpList Try.prog ops Q (o :: rest) a w := by
  refine wpList_plain hgd fun K hK => ?_
  obtain ⟨v', w', hrun, h2, h3⟩ := run_push w lo ws news v xv o.type hst hx hxs hlo hb
  unfold Oper.wp
  simp [execOp, ho, resolve, invoke, builtin, hs, hxe, hrun, Result.andThen]
  exact hK _ _ (h v' w' h2 h3)

/-- no numbers, in whatever block -/
theorem no_ints (w : World) (lo : Nat) (ad : Option Addr) (cap : Nat) (h : cap ≤ maxLen) : IntRow w lo [] (.slice ad 0 cap) := ⟨ad, cap, rfl, Nat.zero_le _, h, Or.inl rfl⟩
end Go.Proofs.Ytjdlfpdljmohiaa
/-
  A GRAPH THAT CALLS BUILD BY append: the row of cells is owned, the operands lie in rows of their own.
-/
namespace Go.Proofs.Ytjdlfpdljmohiaa
set_option linter.unusedVariables false
set_option linter.unusedSimpArgs false
open Go.RowKit

theorem infoC1 : ∃ i z, Try.prog.info? 35 = some i ∧ i.zero = some z ∧ i.size = 3 ∧ i.bytes = 40 ∧ z.cells.size = 3 := by
  obtain ⟨i, hi, hzz⟩ := Option.map_eq_some_iff.1 infoC
  simp only [Prod.mk.injEq] at hzz
  obtain ⟨hz, hs, hb⟩ := hzz
  exact ⟨i, _, hi, hz, hs, hb, rfl⟩
/-- the operands of a cell, in the row blk, a block of S -/
def KRowS (w : World) (S : Nat → Prop) (xs : List Int) (blk : Nat) (v : Value) : Prop :=
  ∃ ad cap, v = .slice ad xs.length cap ∧ xs.length ≤ cap ∧ cap ≤ maxLen ∧ (xs = [] ∨ ∃ f, ad = some ⟨blk, 0, none⟩ ∧ S blk ∧ w.rowIs blk 3 cap f ∧ ∀ i (h : i < xs.length), f i = .int .i64 xs[i])
theorem KRowS.keep {w w' : World} {S S' : Nat → Prop} {xs : List Int} {blk : Nat} {v : Value} (h : KRowS w S xs blk v) (hS : ∀ k, S k → k < w.heap.size → S' k) (hb : ∀ C, S blk → blk < w.heap.size → w.heap[blk]? = some (.cells C 3 (0, 0)) → w'.heap[blk]? = w.heap[blk]?) : KRowS w' S' xs blk v := by
  obtain ⟨ad, cap, e, l1, l2, h⟩ := h
  refine ⟨ad, cap, e, l1, l2, h.imp id ?_⟩
  rintro ⟨f, rfl, h1, h3, h4⟩
  obtain ⟨C, hC, -⟩ := id h3
  exact ⟨f, rfl, hS _ h1 h3.lt, h3.of_block (hb C h1 h3.lt hC), h4⟩
/-- a slice value that holds a graph that is being built: the row of cells is owned, from block lo on; the operands lie in blocks of S -/
def OwnC (w : World) (lo : Nat) (S : Nat → Prop) (g : List Ce) (v : Value) : Prop :=
  (∀ i (h : i < g.length), I64 g[i].op ∧ I64 g[i].num) ∧ ∃ (xs : List Value) (kb : Nat → Nat), w.ownsRow lo 35 3 v g.length xs ∧
    (∀ j (hj : j < g.length), ∃ kv, xs[j * 3]? = some (.int .i64 g[j].op) ∧ xs[j * 3 + 1]? = some (.int .i64 g[j].num) ∧ xs[j * 3 + 2]? = some kv ∧ KRowS w S g[j].kids (kb j) kv) ∧ Dist kb g
theorem OwnC.nil (w : World) (lo : Nat) (S : Nat → Prop) : OwnC w lo S [] (.slice none 0 0) := ⟨fun i h => absurd h (by simp), [], fun _ => 0, World.ownsRow_nil w lo _ _, fun j hj => absurd hj (by simp), fun i j hi _ => absurd hi (by simp)⟩
/-- it stays where the row of cells and all rows of ints in S stay -/
theorem OwnC.next {w w' : World} {lo : Nat} {S S' : Nat → Prop} {g : List Ce} {v : Value} (h : OwnC w lo S g v) (hS : ∀ k, S k → k < w.heap.size → S' k) (hr : ∀ k, some k = v.ownBlock → k < w.heap.size → w'.heap[k]? = w.heap[k]?) (hb : ∀ k, S k → k < w.heap.size → w'.heap[k]? = w.heap[k]?) : OwnC w' lo S' g v := by
  obtain ⟨hi0, xs, kb, h1, h2, h3⟩ := h
  refine ⟨hi0, xs, kb, ?_, fun j hj => ?_, h3⟩
  · refine ⟨h1.1, ?_⟩
    rcases h1.2 with h | ⟨b, cap, cur, rfl, hg, hh, r⟩
    · exact Or.inl h
    · exact Or.inr ⟨b, cap, cur, rfl, hg, (hr b rfl (Array.getElem?_eq_some_iff.1 hh).1).trans hh, r⟩
  · obtain ⟨kv, e0, e1, e2, e3⟩ := h2 j hj
    exact ⟨kv, e0, e1, e2, e3.keep hS fun C h1 h2 _ => hb _ h1 h2⟩
theorem OwnC.row {w : World} {lo : Nat} {S : Nat → Prop} {g : List Ce} {v : Value} (h : OwnC w lo S g v) : ∃ xs, w.ownsRow lo 35 3 v g.length xs := by
  obtain ⟨-, xs, kb, h1, -⟩ := h; exact ⟨xs, h1⟩
theorem OwnC.form {w : World} {lo : Nat} {S : Nat → Prop} {g : List Ce} {v : Value} (h : OwnC w lo S g v) : ∃ ad cap, v = .slice ad g.length cap := by
  obtain ⟨xs, h1⟩ := h.row
  rcases h1.2 with ⟨rfl, h0⟩ | ⟨b, cap, cur, rfl, -⟩
  · exact ⟨none, 0, by rw [h0]⟩
  · exact ⟨_, _, rfl⟩
/-- one cell more -/
theorem OwnC.step {w w' : World} {lo : Nat} {S : Nat → Prop} {g : List Ce} {v v' : Value} {c : Ce} {kv : Value} {blk : Nat} (h : OwnC w lo S g v)
    (hc : I64 c.op ∧ I64 c.num) (hk : KRowS w (fun b => b = blk) c.kids blk kv) (hS : ¬ S blk) (xs : List Value) (hx : w.ownsRow lo 35 3 v g.length xs)
    (hown : w'.ownsRow lo 35 3 v' (g.length + 1) (xs ++ [.int .i64 c.op, .int .i64 c.num, kv])) (hg : w.grownBy w' v.ownBlock) : OwnC w' lo (fun b => S b ∨ b = blk) (g ++ [c]) v' := by
  obtain ⟨hi0, xs2, kb, h1, h2, h3⟩ := h
  have hxs : xs2 = xs := by
    rcases h1.2 with ⟨rfl, h0⟩ | ⟨b, cap, cur, rfl, hg', hh, hn', hc', hs', htk⟩
    · have a1 := h1.1
      have a2 := hx.1
      rw [h0] at a1 a2
      rw [List.eq_nil_of_length_eq_zero (by omega : xs2.length = 0), List.eq_nil_of_length_eq_zero (by omega : xs.length = 0)]
    · rcases hx.2 with ⟨e, -⟩ | ⟨b2, cap2, cur2, e, -, hh2, -, -, -, htk2⟩
      · cases e
      · cases e
        rw [hh] at hh2
        cases hh2
        rw [← htk, ← htk2]
  subst hxs
  have hlen := h1.1
  -- a row of ints is not the row of cells
  have keep : ∀ (C : Array Value) (b : Nat), b < w.heap.size → w.heap[b]? = some (.cells C 3 (0, 0)) → w'.heap[b]? = w.heap[b]? := by
    intro C b hb hC
    refine hg.block b hb fun e => ?_
    rcases h1.2 with ⟨rfl, -⟩ | ⟨b2, cap, cur, rfl, -, hh, -⟩
    · simp [Value.ownBlock] at e
    · simp only [Value.ownBlock, Option.some.injEq] at e
      subst e
      rw [hh] at hC
      simp at hC
  refine ⟨fun i hi' => ?_, xs2 ++ [.int .i64 c.op, .int .i64 c.num, kv], fun j => if j = g.length then blk else kb j, by simpa using hown, fun j hj => ?_, ?_⟩
  · by_cases hil : i < g.length
    · rw [List.getElem_append_left hil]; exact hi0 i hil
    · have : i = g.length := by simp at hi'; omega
      subst this
      simpa using hc
  · by_cases hjl : j < g.length
    · obtain ⟨kv', e0, e1, e2, e3⟩ := h2 j hjl
      refine ⟨kv', ?_, ?_, ?_, ?_⟩
      · rw [List.getElem?_append_left (by omega), List.getElem_append_left hjl]; exact e0
      · rw [List.getElem?_append_left (by omega), List.getElem_append_left hjl]; exact e1
      · rw [List.getElem?_append_left (by omega)]; exact e2
      · simp only [if_neg (show ¬ j = g.length by omega)]
        rw [List.getElem_append_left hjl]
        exact e3.keep (fun k hk _ => Or.inl hk) fun C _ h5 hC => keep C _ h5 hC
    · have hj' : j = g.length := by simp at hj; omega
      subst hj'
      refine ⟨kv, ?_, ?_, ?_, ?_⟩
      · rw [List.getElem?_append_right (by omega)]; simp [hlen]
      · rw [List.getElem?_append_right (by omega)]; simp [hlen]
      · rw [List.getElem?_append_right (by omega)]; simp [hlen]
      · simp only [List.getElem_concat_length, if_pos]
        exact hk.keep (fun k hk _ => Or.inr hk) fun C _ h5 hC => keep C _ h5 hC
  · -- distinct
    have ne : ∀ i (hi' : i < g.length), g[i].kids ≠ [] → kb i ≠ blk := by
      intro i hi' hne e
      obtain ⟨kv', -, -, -, _, _, _, _, _, h5⟩ := h2 i hi'
      rcases h5 with h5 | ⟨f5, -, h6, -⟩
      · exact hne h5
      · exact hS (e ▸ h6)
    intro i j hi' hj' hij ei ej
    simp only [List.length_append, List.length_cons, List.length_nil] at hi' hj'
    by_cases il : i < g.length
    · rw [List.getElem_append_left il] at ei
      by_cases jl : j < g.length
      · rw [List.getElem_append_left jl] at ej
        simp only [if_neg (show ¬ i = g.length by omega), if_neg (show ¬ j = g.length by omega)]
        exact h3 i j il jl hij ei ej
      · have : j = g.length := by omega
        subst this
        simp only [if_neg (show ¬ i = g.length by omega), if_pos]
        exact ne i il ei
    · have : i = g.length := by omega
      subst this
      have jl : j < g.length := by omega
      rw [List.getElem_append_left jl] at ej
      simp only [if_neg (show ¬ j = g.length by omega), if_pos]
      exact (ne j jl ej).symm
/-- the graph, in rows of its own -/
theorem OwnC.own {w : World} {lo : Nat} {S : Nat → Prop} {g : List Ce} {v : Value} (h : OwnC w lo S g v) (hS : ∀ k, S k → k < w.heap.size → lo ≤ k) : GOwn w (List.range' lo (w.heap.size - lo)) g v := by
  obtain ⟨hi0, xs, kb, h1, h2, h3⟩ := h
  refine ⟨hi0, ?_⟩
  rcases h1.2 with ⟨rfl, h0⟩ | ⟨b, cap, cur, rfl, hg, hh2, hn, hc, hs, htk⟩
  · obtain rfl : g = [] := List.eq_nil_of_length_eq_zero h0
    exact ⟨none, 0, rfl, Nat.le_refl _, by simp [maxLen], Or.inl rfl⟩
  · have hbl : b < w.heap.size := (Array.getElem?_eq_some_iff.1 hh2).1
    refine ⟨_, cap, rfl, hn, hc, Or.inr ⟨b, kb, rfl, by rw [List.mem_range'_1]; omega, ⟨fun i => cur.getD i undef, ⟨cur, hh2, hs, fun i hi => by simp [Array.getD, show i < cur.size by omega]⟩, fun i hi => ?_⟩, h3⟩⟩
    obtain ⟨kv, e0, e1, e2, e3⟩ := h2 i hi
    have get : ∀ m u, m < g.length * 3 → xs[m]? = some u → cur.getD m undef = u := by
      intro m u hm hu
      rw [← htk, List.getElem?_take_of_lt hm] at hu
      have hmc : m < cur.size := by omega
      simp [hmc] at hu
      simp [Array.getD, hmc, hu]
    refine ⟨get _ _ (by omega) e0, get _ _ (by omega) e1, ?_⟩
    simp only []
    rw [get _ _ (by omega) e2]
    obtain ⟨ad2, cap2, e4, l1, l2, h5⟩ := e3
    refine ⟨ad2, cap2, e4, l1, l2, h5.imp id ?_⟩
    rintro ⟨f, rfl, h6, h8, h9⟩
    exact ⟨f, rfl, by rw [List.mem_range'_1]; have := h8.lt; have := hS _ h6 h8.lt; omega, h8, h9⟩
/-- a list of operands that a call has built by append -/
theorem stk_krow {w : World} {lo : Nat} {ws : List Nat} {v : Value} (h : Stk w lo ws v) : ∃ blk, (ws ≠ [] → v.ownBlock = some blk) ∧ KRowS w (fun b => b = blk) (ws.map fun (a : Nat) => (a : Int)) blk v := by
  obtain ⟨ad, cap, e, l1, l2, h5⟩ := h.row
  rcases h5 with h5 | ⟨g, f, rfl, h6, h7, h8⟩
  · have hw : ws = [] := by simpa using h5
    exact ⟨0, fun hx => absurd hw hx, ad, cap, e, l1, l2, Or.inl h5⟩
  · exact ⟨g, fun _ => by rw [e]; rfl, _, cap, e, l1, l2, Or.inr ⟨f, rfl, rfl, h7, h8⟩⟩
theorem news3c (w : World) (a b c : Value) (j : Nat) (u : Value) (h : [a, b, c][j]? = some u) : (w.alloc (.cells #[a, b, c] 35)).cell? ((⟨w.heap.size, 0, none⟩ : Addr).add j) = some u := by
  rw [WideShapes.add_plain, Nat.zero_add]
  exact box_cell w #[a, b, c] _ j u (by simpa using h)
theorem stk_form {w : World} {lo k : Nat} {ws : List Nat} {n : Nat} {v : Value} (h : Stk w lo (ws ++ [n]) v) (hk : ws.length = k) : ∃ ad cap, v = .slice ad (k + 1) cap := by
  obtain ⟨a, c, e⟩ := h.len
  exact ⟨a, c, by rw [e, List.length_append, hk]; rfl⟩
end Go.Proofs.Ytjdlfpdljmohiaa
/-
  ELEMENTS OF ROWS OUT OF A SET OF BLOCKS.
-/
namespace Go.Proofs.Ytjdlfpdljmohiaa
set_option linter.unusedVariables false
set_option linter.unusedSimpArgs false
open Go.RowKit

/-- element i of a graph out of a set of blocks -/
theorem CellsOn.atS {w : World} {S : Nat → Prop} {g : List Ce} {ad : Option Addr} {n cap : Nat} (h : CellsOn w S g (.slice ad n cap)) (i : Nat) (hi : i < g.length) :
    ∃ bl off c, ad = some ⟨bl, off, none⟩ ∧ S bl ∧ w.cell? ⟨bl, off + i * 3, none⟩ = some (.int .i64 g[i].op) ∧ w.cell? ⟨bl, off + i * 3 + 1, none⟩ = some (.int .i64 g[i].num) ∧ w.cell? ⟨bl, off + i * 3 + 2, none⟩ = some c ∧ I64 g[i].op ∧ I64 g[i].num ∧ IntsOn w S g[i].kids c := by
  obtain ⟨ad', cap', he, -, -, hr⟩ := h
  cases he
  rcases hr with rfl | ⟨bl, off, rfl, hs, r⟩
  · simp at hi
  obtain ⟨c, h1, h2, h3, i1, i2, h4⟩ := r i hi
  exact ⟨bl, off, c, rfl, hs, h1, h2, h3, i1, i2, h4⟩
theorem IntsOn.atS {w : World} {S : Nat → Prop} {xs : List Int} {ad : Option Addr} {n cap : Nat} (h : IntsOn w S xs (.slice ad n cap)) (i : Nat) (hi : i < xs.length) :
    ∃ bl off, ad = some ⟨bl, off, none⟩ ∧ S bl ∧ w.cell? ⟨bl, off + i, none⟩ = some (.int .i64 xs[i]) := by
  obtain ⟨ad', cap', he, -, -, hr⟩ := h
  cases he
  rcases hr with rfl | ⟨bl, off, rfl, hs, r⟩
  · simp at hi
  exact ⟨bl, off, rfl, hs, r i hi⟩
end Go.Proofs.Ytjdlfpdljmohiaa
/-
  THE BLOCK OF A ROW THAT A CALL OWNS; three cells of a box.
-/
namespace Go.Proofs.Ytjdlfpdljmohiaa
set_option linter.unusedVariables false
set_option linter.unusedSimpArgs false
open Go.RowKit

theorem own_some {w : World} {base n size : Nat} {e : TypeId} {v : Value} {xs : List Value} (h : w.ownsRow base e size v n xs) : ∀ k, v.ownBlock = some k → base ≤ k ∧ k < w.heap.size := by
  intro k hk
  rcases h.2 with ⟨rfl, -⟩ | ⟨g, cap, cur, rfl, hb, hh, -⟩
  · simp [Value.ownBlock] at hk
  · simp only [Value.ownBlock, Option.some.injEq] at hk
    subst hk
    exact ⟨hb, (Array.getElem?_eq_some_iff.1 hh).1⟩
theorem box_set {w : World} {B : Nat} {a b c : Value} {T : TypeId} (h : w.heap[B]? = some (.cells #[a, b, c] T)) (v : Value) : (w.setCell ⟨B, 2, none⟩ v).heap[B]? = some (.cells #[a, b, v] T) := by
  simp [World.setCell, Array.getElem?_modify, h]
theorem box_but2 {fp : List Nat} {w w1 : World} {x y z : Value} (h : ButL fp w w1) : ButL fp w (((w1.setCell ⟨w.heap.size, 0, none⟩ x).setCell ⟨w.heap.size, 1, none⟩ y).setCell ⟨w.heap.size, 2, none⟩ z) :=
  ⟨h.os, h.tape, h.output, by simp only [size_setCell]; exact h.size, fun k hk hn => by
    rw [Below.heap_setCell _ _ _ _ (by show k ≠ w.heap.size; omega), Below.heap_setCell _ _ _ _ (by show k ≠ w.heap.size; omega), Below.heap_setCell _ _ _ _ (by show k ≠ w.heap.size; omega)]
    exact h.block k hk hn⟩
end Go.Proofs.Ytjdlfpdljmohiaa
/-
  LISTS OF PLACES IN MEMORY: reading one; one more, at a step; other rows stay.
-/
namespace Go.Proofs.Ytjdlfpdljmohiaa
set_option linter.unusedVariables false
set_option linter.unusedSimpArgs false
open Go.RowKit

/-- a call has handed back these places, in a row of its own -/
def NewStk (ws : List Nat) (w : World) (e : Ending) (w' : World) : Prop := ∃ v, e = .returned v ∧ Stk w' w.heap.size ws v ∧ Below w.heap.size w w'
theorem pl_form {w : World} {rs : List Nat} {v : Value} (h : IIn w (plI rs) v) : ∃ ad cap, v = .slice ad rs.length cap ∧ rs.length ≤ cap ∧ cap ≤ maxLen := by
  obtain ⟨ad, cap, e, l1, l2, -⟩ := h
  rw [plI_length] at e l1
  exact ⟨ad, cap, e, l1, l2⟩
theorem pl_at {w : World} {rs : List Nat} {ad : Option Addr} {n cap : Nat} (h : IIn w (plI rs) (.slice ad n cap)) (k : Nat) (hk : k < rs.length) :
    ∃ bl off x, ad = some ⟨bl, off, none⟩ ∧ bl < w.heap.size ∧ rs[k]? = some x ∧ x ∈ rs ∧ w.cell? ⟨bl, off + k, none⟩ = some (.int .i64 (x : Int)) := by
  obtain ⟨bl, off, e, hc⟩ := h.at k (by rw [plI_length]; exact hk)
  refine ⟨bl, off, rs[k], e, cell_lt hc, List.getElem?_eq_getElem hk, List.getElem_mem hk, ?_⟩
  rw [hc]; simp [plI]
theorem Stk.pin {w : World} {lo : Nat} {ws : List Nat} {v : Value} (h : Stk w lo ws v) : IIn w (plI ws) v := h.row.inn
theorem Stk.lower {w : World} {lo lo' : Nat} {ws : List Nat} {v : Value} (h : Stk w lo ws v) (hl : lo' ≤ lo) : Stk w lo' ws v := by
  refine ⟨h.1, ?_⟩
  rcases h.2 with h | ⟨g, cap, cur, rfl, hg, r⟩
  · exact Or.inl h
  · exact Or.inr ⟨g, cap, cur, rfl, Nat.le_trans hl hg, r⟩
theorem Stk.next {w w' : World} {lo : Nat} {ws : List Nat} {v : Value} (h : Stk w lo ws v) (hb : Below w.heap.size w w') : Stk w' lo ws v := h.keep fun k _ hk => hb.block k hk
theorem kids_pl {w : World} {g : List Ce} {defs : Int} {a : Nat} {v : Value} (hg : graphB g defs = true) (ha : a < g.length) (h : IIn w g[a].kids v) : IIn w (plI (kidsN g a)) v := by
  rw [kids_back hg a ha] at h; exact h
/-- an empty row of places -/
theorem stk_zero {w : World} {lo b : Nat} (h : w.heap[b]? = some (.cells #[] 3)) (hb : lo ≤ b) : Stk w lo [] (.slice (some ⟨b, 0, none⟩) 0 0) :=
  ⟨rfl, Or.inr ⟨b, 0, #[], rfl, hb, h, Nat.le_refl _, by simp [maxLen], rfl, rfl⟩⟩
/-- append of places, at a step of a region that draws -/
theorem step_push {ops : Array Oper} {o : Oper} {a : Act} {w : World} {K : Act → World → Prop} {Q : Exit → Act → World → Prop} {E : Prop} (hgd : o.guard = none) (s x : Operand)
    (ho : o.op = .call { callee := .builtin .append, args := #[s, x], argTypes := #[33, 33] })
    (lo : Nat) (ws news : List Nat) (v xv : Value) (hs : a.eval s = v) (hst : Stk w lo ws v) (hxe : a.eval x = xv) {xs : List Int} (hx : IIn w xs xv) (hxs : xs = news.map fun (a : Nat) => (a : Int)) (hlo : lo ≤ w.heap.size) (hb : ws.length + news.length ≤ 1048576)
    (h : ∀ v' w', Stk w' lo (ws ++ news) v' → w.grownBy w' v.ownBlock → K (a.put o.dst v') w') : if Region.wanted o (yielded ops a.tmps) = true then Oper.wp Try.prog o a w K Q else E := by
  have hw : Region.wanted o (yielded ops a.tmps) = true := by simp [Region.wanted, hgd]
  rw [if_pos hw]
  obtain ⟨v', w', hrun, h2, h3⟩ := run_push w lo ws news v xv o.type hst hx hxs hlo hb
  unfold Oper.wp
  simp [execOp, ho, resolve, invoke, builtin, hs, hxe, hrun, Result.andThen]
  exact h _ _ h2 h3
theorem stk_len2 {w : World} {lo n : Nat} {ws : List Nat} {v : Value} (h : Stk w lo ([] ++ ws) v) (hn : ws.length = n) : ∃ ad cap, v = .slice ad n cap := by
  obtain ⟨a, c, e⟩ := h.len
  exact ⟨a, c, by rw [e, List.nil_append, hn]⟩
/-- a row of another type is not the row of places -/
theorem own_other {w : World} {lo : Nat} {ws : List Nat} {v : Value} {b n : Nat} {T : TypeId} {f : Nat → Value} (h : Stk w lo ws v) (hr : w.rowIs b T n f) (hT : T ≠ 3) : some b ≠ v.ownBlock := by
  intro e
  rcases h.2 with ⟨rfl, -⟩ | ⟨g, cap, cur, rfl, -, hh, -⟩
  · simp [Value.ownBlock] at e
  · simp only [Value.ownBlock, Option.some.injEq] at e
    subst e
    obtain ⟨C, hC, -⟩ := hr
    rw [hh] at hC
    simp only [Option.some.injEq, Obj.cells.injEq] at hC
    exact hT hC.2.1.symm
theorem Stk.mark {w : World} {lo : Nat} {ws : List Nat} {v : Value} {b n : Nat} {T : TypeId} {f : Nat → Value} (h : Stk w lo ws v) (hr : w.rowIs b T n f) (hT : T ≠ 3) (i : Nat) (u : Value) : Stk (w.setCell ⟨b, i, none⟩ u) lo ws v := by
  have hne := own_other h hr hT
  refine ⟨h.1, ?_⟩
  rcases h.2 with h' | ⟨g, cap, cur, rfl, hg, hh, r⟩
  · exact Or.inl h'
  · refine Or.inr ⟨g, cap, cur, rfl, hg, (Below.heap_setCell _ _ _ _ ?_).trans hh, r⟩
    intro e
    exact hne (by simp only [Value.ownBlock, Option.some.injEq]; exact e.symm)
/-- the world behind append: nothing older has changed -/
theorem push_below {w wb w5 : World} {B lo : Nat} {ws : List Nat} {v : Value} (hst : Stk wb lo ws v) (hb : Below B w wb) (hlo : B ≤ lo) (hg : wb.grownBy w5 v.ownBlock) (hB : B ≤ w.heap.size) : Below B w w5 :=
  ⟨by rw [hg.os]; exact hb.os, by rw [hg.tape]; exact hb.tape, by rw [hg.output]; exact hb.output, Nat.le_trans hb.size hg.size, fun k hk =>
    (hg.block k (by have := hb.size; omega) (fun e => by have := own_lo hst e; omega)).trans (hb.block k hk)⟩
/-- a row of another type stays behind append -/
theorem row_push {w w5 : World} {lo : Nat} {ws : List Nat} {v : Value} {b n : Nat} {T : TypeId} {f : Nat → Value} (hr : w.rowIs b T n f) (hst : Stk w lo ws v) (hg : w.grownBy w5 v.ownBlock) (hT : T ≠ 3) : w5.rowIs b T n f :=
  hr.of_block (hg.block b hr.lt (own_other hst hr hT))
end Go.Proofs.Ytjdlfpdljmohiaa
/-
  THE MODEL's l3Copy: a copy of a graph, in new memory.
-/
namespace Go.Proofs.Ytjdlfpdljmohiaa
set_option linter.unusedVariables false
set_option linter.unusedSimpArgs false
open Go.RowKit

/-- a copy of a graph, in rows of its own from block w.heap.size on -/
def CopyRes (g : List Ce) (w : World) (e : Ending) (w' : World) : Prop := ∃ gv, e = .returned gv ∧ OwnC w' w.heap.size (fun b => w.heap.size ≤ b) g gv ∧ Below w.heap.size w w'

/-- one cell more, with operands in a new row -/
theorem copy_push {wr w1 w3 : World} {lo : Nat} {G : List Ce} {v v' kv : Value} {ws : List Nat} {o n : Int} (h : OwnC wr lo (fun b => lo ≤ b) G v) (hlo : lo ≤ wr.heap.size) (h1 : Below wr.heap.size wr w1) (hst : Stk w1 wr.heap.size ws kv) (obj : Obj) {xs : List Value}
    (hx : (w1.alloc obj).ownsRow lo 35 3 v G.length xs) (hown : w3.ownsRow lo 35 3 v' (G.length + 1) (xs ++ [.int .i64 o, .int .i64 n, kv])) (hg : (w1.alloc obj).grownBy w3 v.ownBlock) (ho : I64 o) (hn : I64 n) :
    OwnC w3 lo (fun b => lo ≤ b) (G ++ [⟨o, n, ws.map fun (a : Nat) => (a : Int)⟩]) v' := by
  have hs1 := h1.size
  obtain ⟨ys, hy⟩ := h.row
  have h4 : OwnC (w1.alloc obj) lo (fun b => lo ≤ b ∧ b < wr.heap.size) G v := h.next (fun b hb hb2 => ⟨hb, hb2⟩) (fun b _ hb => (Deep.blk_alloc_lt _ _ _ (by omega)).trans (h1.block b hb)) (fun b _ hb => (Deep.blk_alloc_lt _ _ _ (by omega)).trans (h1.block b hb))
  obtain ⟨blk, hb1, hb3⟩ : ∃ blk, wr.heap.size ≤ blk ∧ KRowS (w1.alloc obj) (fun b => b = blk) (ws.map fun (a : Nat) => (a : Int)) blk kv := by
    obtain ⟨blk, h1, h2⟩ := stk_krow (hst.alloc obj)
    by_cases he : ws = []
    · obtain ⟨ad, cap, e, l1, l2, -⟩ := h2
      exact ⟨wr.heap.size, Nat.le_refl _, ad, cap, e, l1, l2, Or.inl (by rw [he]; rfl)⟩
    · exact ⟨blk, (own_some hst blk (h1 he)).1, h2⟩
  have h5 := h4.step (c := ⟨o, n, ws.map fun (a : Nat) => (a : Int)⟩) (v' := v') ⟨ho, hn⟩ hb3 (fun h => by have := h.2; omega) xs hx hown hg
  refine h5.next (fun b hb _ => ?_) (fun _ _ _ => rfl) (fun _ _ _ => rfl)
  rcases hb with hb | rfl
  · exact hb.1
  · omega

theorem copy_below {wr w1 : World} {o : Obj} (h : (wr.alloc o).drew.grownBy w1 (Value.slice (some ⟨wr.heap.size, 0, none⟩) 0 0).ownBlock) : Below wr.heap.size wr w1 :=
  ⟨h.os, h.tape, h.output, by have h1 : (wr.alloc o).heap.size ≤ w1.heap.size := h.size; rw [Deep.nblk_alloc] at h1; omega, fun k hk => (h.block k (by show k < (wr.alloc o).heap.size; rw [Deep.nblk_alloc]; omega) (by simp only [Value.ownBlock, ne_eq, Option.some.injEq]; omega)).trans (Deep.blk_alloc_lt _ _ _ hk)⟩
theorem copy_own {wr w1 : World} {lo n : Nat} {v : Value} {xs : List Value} (h : wr.ownsRow lo 35 3 v n xs) (hb : Below wr.heap.size wr w1) (o : Obj) : (w1.alloc o).ownsRow lo 35 3 v n xs := by
  refine ⟨h.1, ?_⟩
  have hs := hb.size
  rcases h.2 with h' | ⟨g, cap, cur, rfl, hg, hh, r⟩
  · exact Or.inl h'
  · have hl := (Array.getElem?_eq_some_iff.1 hh).1
    exact Or.inr ⟨g, cap, cur, rfl, hg, ((Deep.blk_alloc_lt _ _ _ (by omega)).trans (hb.block g hl)).trans hh, r⟩

theorem copy_below3 {w wr w1 w3 : World} {n : Nat} {v : Value} {xs : List Value} {o : Obj} (hb : Below w.heap.size w wr) (h1 : Below wr.heap.size wr w1) (hx : wr.ownsRow w.heap.size 35 3 v n xs) (hg : (w1.alloc o).grownBy w3 v.ownBlock) : Below w.heap.size w w3 := by
  have hs := hb.size
  have hs1 := h1.size
  have hs3 := hg.size
  rw [Deep.nblk_alloc] at hs3
  exact ⟨(hg.os.trans h1.os).trans hb.os, (hg.tape.trans h1.tape).trans hb.tape, (hg.output.trans h1.output).trans hb.output, by omega, fun k hk => (((hg.block k (by rw [Deep.nblk_alloc]; omega) (fun e => by have := (own_some hx k e.symm).1; omega)).trans (Deep.blk_alloc_lt _ _ _ (by omega))).trans (h1.block k (by omega))).trans (hb.block k hk)⟩

set_option maxRecDepth 100000 in
set_option maxHeartbeats 1600000 in
theorem l3Copy_calls (g : List Ce) (v : Value) (w : World) (hk : CIn w g v) (hg : ∃ defs, graphB g defs = true) : Calls Try.prog 67 #[v] w (CopyRes g w) := by
  have HK : Hid (CIn w g v) := hk
  obtain ⟨defs, hg⟩ := hg
  have HG : Hid (graphB g defs = true) := hg
  obtain ⟨ad, cap, rfl, hl, hm, -⟩ := hk
  unfold maxLen at hm
  have h400 : g.length ≤ 400 := graphB_len hg
  clear hg
  go_enter Try.func67, Try.ntmps67
  go_wp2_with fail
  have HST : Hid (OwnC (w.alloc (.cells #[] 35)) w.heap.size (fun b => w.heap.size ≤ b) (g.take 0) (.slice (some ⟨w.heap.size, 0, none⟩) 0 0)) :=
    ⟨fun i h => absurd h (by simp), [], fun _ => 0, ⟨rfl, Or.inr ⟨w.heap.size, 0, #[], rfl, Nat.le_refl _, Deep.blk_alloc_new _ _, Nat.le_refl _, by simp [maxLen], rfl, rfl⟩⟩, fun j hj => absurd hj (by simp), fun i j hi _ => absurd hi (by simp)⟩
  go_loopw [3, 4] (fun out i wr => ∃ k : Nat, k ≤ g.length ∧ i = .int .i64 k ∧ OwnC wr w.heap.size (fun b => w.heap.size ≤ b) (g.take k) out ∧ Below w.heap.size w wr) (fun _ i _ => g.length - (intOf i).toNat)
  case atStart => exact ⟨0, Nat.zero_le _, rfl, HST.out, box_below _ _⟩
  case round =>
    obtain ⟨k, hk, rfl, hown, hb⟩ := hrel
    have HO : Hid (OwnC wr w.heap.size (fun b => w.heap.size ≤ b) (g.take k) u3) := hown
    have HB : Hid (Below w.heap.size w wr) := hb
    have hsz := hb.size
    by_cases hlt : k < g.length
    · obtain ⟨bl, off, r2, rfl, c0w, c1w, c2w, io, iN, hkk⟩ := HK.out.at k hlt
      have HKK : Hid (IIn wr g[k].kids r2) := hkk.next hb
      have HLW : Hid (bl < w.heap.size) := cell_lt c0w
      have c0 := (hb.cell (p := ⟨bl, off + k * 3, none⟩) HLW.out).trans c0w
      have c1 := (hb.cell (p := ⟨bl, off + k * 3 + 1, none⟩) HLW.out).trans c1w
      have c2 := (hb.cell (p := ⟨bl, off + k * 3 + 2, none⟩) HLW.out).trans c2w
      have HC : Hid (w.cell? ⟨bl, off + k * 3, none⟩ = some (.int .i64 g[k].op) ∧ w.cell? ⟨bl, off + k * 3 + 1, none⟩ = some (.int .i64 g[k].num) ∧ w.cell? ⟨bl, off + k * 3 + 2, none⟩ = some r2) := ⟨c0w, c1w, c2w⟩
      clear c0w c1w c2w
      have HIO : Hid (I64 g[k].op ∧ I64 g[k].num) := ⟨io, iN⟩
      have lg := cell_lt c0
      have HTL : Hid ((g.take k).length = k) := by rw [Hid, List.length_take]; omega
      obtain ⟨adk, capk, rfl, -, -, -⟩ := id hkk
      clear hown hb hkk io iN
      obtain ⟨xs, hx⟩ := HO.out.row
      rw [HTL.out] at hx
      have HX : Hid (wr.ownsRow w.heap.size 35 3 u3 k xs) := hx
      obtain ⟨iC, zC, hII⟩ := infoC1
      have HII : Hid (Try.prog.info? 35 = some iC ∧ iC.zero = some zC ∧ iC.size = 3 ∧ iC.bytes = 40 ∧ zC.cells.size = 3) := hII
      have HK3 : Hid (g[k].kids.length ≤ 3) := (kids_graph HG.out k hlt).1
      have HKN : Hid ((kidsN g k).length = g[k].kids.length) := by rw [Hid, kidsN_at k hlt]; simp
      clear hII hx
      go_wp2_with fail
      go_region_held3 (fun w' => w'.cell? ⟨bl, off + k * 3, none⟩ = some (.int .i64 g[k].op) ∧ w'.cell? ⟨bl, off + k * 3 + 1, none⟩ = some (.int .i64 g[k].num) ∧ w'.cell? ⟨bl, off + k * 3 + 2, none⟩ = some (.slice adk g[k].kids.length capk))
        (first
          | go_keep
          | exact ⟨e0, e1, e2⟩
          | exact ⟨d0, d1, d2⟩
          | exact ⟨old_cell d0 _, old_cell d1 _, old_cell d2 _⟩
          | exact ⟨old_cell c0 _, old_cell c1 _, old_cell c2 _⟩)
        (first
          | (refine step_push (by rfl) (.tmp 23) (.tmp 28) (by rfl) wr.heap.size [] (kidsN g k) (.slice (some ⟨wr.heap.size, 0, none⟩) 0 0) (.slice adk g[k].kids.length capk) (by rfl) (stk_zero (Deep.blk_alloc_new wr _) (Nat.le_refl _)) (by rfl) (HKK.out.next ((box_below wr _).drew)) (kids_back HG.out k hlt) (by show wr.heap.size ≤ (wr.alloc _).heap.size; rw [Deep.nblk_alloc]; omega) (by rw [HKN.out]; have := HK3.out; simp only [List.length_nil]; omega) ?_; intro v1 w1 hst1 hg1; have HB1 : Hid (Below wr.heap.size wr w1) := copy_below hg1; have HST1 : Hid (Stk w1 wr.heap.size (kidsN g k) v1) := hst1; obtain ⟨ad1, cap1, rfl⟩ := stk_len2 hst1 HKN.out; have d0 := (HB1.out.cell (p := ⟨bl, off + k * 3, none⟩) lg).trans c0; have d1 := (HB1.out.cell (p := ⟨bl, off + k * 3 + 1, none⟩) lg).trans c1; have d2 := (HB1.out.cell (p := ⟨bl, off + k * 3 + 2, none⟩) lg).trans c2; clear hst1 hg1)
          | (refine step_append_where (by rfl) (.tmp 12) (.tmp 31) 23 (by rfl) w.heap.size 35 iC zC 3 40 Try.underlying23 HII.out.1 HII.out.2.1 HII.out.2.2.1 HII.out.2.2.2.1 HII.out.2.2.2.2 (by decide) u3 k xs (by rfl) (copy_own HX.out HB1.out _) ⟨w1.heap.size, 0, none⟩ 1 1 [.int .i64 g[k].op, .int .i64 g[k].num, .slice ad1 g[k].kids.length cap1] (by rfl) (by rfl) (news3c w1 _ _ _) (by simp [Value.oneCell']) (by unfold maxLen; omega) (by omega) (by show w.heap.size ≤ (w1.alloc _).heap.size; rw [Deep.nblk_alloc]; have := HB1.out.size; omega) (by omega) ?_; intro v3 w3 hown3 hg3 hw3; have HOWN3 : Hid (w3.ownsRow w.heap.size 35 3 v3 (k + 1) (xs ++ [.int .i64 g[k].op, .int .i64 g[k].num, .slice ad1 g[k].kids.length cap1])) := hown3; have HG3 : Hid ((w1.alloc (.cells #[.int .i64 g[k].op, .int .i64 g[k].num, .slice ad1 g[k].kids.length cap1] 35)).grownBy w3 u3.ownBlock) := hg3; have HB3 : Hid (Below w.heap.size w w3) := copy_below3 HB.out HB1.out HX.out hg3; have e0 := (HB3.out.cell (p := ⟨bl, off + k * 3, none⟩) HLW.out).trans HC.out.1; have e1 := (HB3.out.cell (p := ⟨bl, off + k * 3 + 1, none⟩) HLW.out).trans HC.out.2.1; have e2 := (HB3.out.cell (p := ⟨bl, off + k * 3 + 2, none⟩) HLW.out).trans HC.out.2.2; clear hown3 hg3 hw3))
      go_wp2_with fail
      go_roundw
      case rel =>
        refine ⟨k + 1, by omega, by go_num, ?_, HB3.out⟩
        have h := copy_push (G := g.take k) (ws := kidsN g k) (o := g[k].op) (n := g[k].num) HO.out HB.out.size HB1.out HST1.out _ (by rw [HTL.out]; exact copy_own HX.out HB1.out _) (by rw [HTL.out]; exact HOWN3.out) HG3.out HIO.out.1 HIO.out.2
        rw [← kids_back HG.out k hlt] at h
        rw [List.take_succ_eq_append_getElem hlt]
        exact h
      case measure => simp [intOf]; omega
    · have hke : k = g.length := by omega
      have HE : Hid (OwnC wr w.heap.size (fun b => w.heap.size ≤ b) g u3) := by
        have h := HO.out
        rw [hke, List.take_length] at h
        exact h
      clear hown hb hke
      go_wp2_with fail
      go_ret
      exact ⟨_, rfl, HE.out, HB.out⟩
end Go.Proofs.Ytjdlfpdljmohiaa
/-
  THE MODEL's l3Copy, with more: each list of operands lies in a row of its own.
-/
namespace Go.Proofs.Ytjdlfpdljmohiaa
set_option linter.unusedVariables false
set_option linter.unusedSimpArgs false
open Go.RowKit

/-- the lists of operands lie in rows of their own, all distinct -/
def KStk (w : World) (lo : Nat) (G : List Ce) (v : Value) (xs : List Value) : Prop :=
  w.ownsRow lo 35 3 v G.length xs ∧ ∃ KV : Nat → Value, (∀ j (hj : j < G.length), xs[j * 3 + 2]? = some (KV j) ∧ ∃ ws : List Nat, Stk w lo ws (KV j) ∧ G[j].kids = ws.map fun (a : Nat) => (a : Int)) ∧ ∀ i j, i < G.length → j < G.length → i ≠ j → ∀ b, (KV i).ownBlock = some b → (KV j).ownBlock ≠ some b
theorem KStk.nil {w : World} {lo b : Nat} (h : w.heap[b]? = some (.cells #[] 35)) (hb : lo ≤ b) : KStk w lo [] (.slice (some ⟨b, 0, none⟩) 0 0) [] :=
  ⟨⟨rfl, Or.inr ⟨b, 0, #[], rfl, hb, h, Nat.le_refl _, by simp [maxLen], rfl, rfl⟩⟩, fun _ => undef, fun j hj => absurd hj (by simp), fun i j hi => absurd hi (by simp)⟩
theorem stk_keep {w w' : World} {lo : Nat} {ws : List Nat} {v : Value} (h : Stk w lo ws v) (hk : ∀ k, v.ownBlock = some k → k < w.heap.size → w'.heap[k]? = w.heap[k]?) : Stk w' lo ws v := by
  refine ⟨h.1, ?_⟩
  rcases h.2 with h | ⟨g, cap, cur, rfl, hg, hh, r⟩
  · exact Or.inl h
  · exact Or.inr ⟨g, cap, cur, rfl, hg, (hk g rfl (Array.getElem?_eq_some_iff.1 hh).1).trans hh, r⟩
/-- a row of ints is not the row of cells -/
theorem stk_not_cells {w : World} {lo lo2 : Nat} {ws : List Nat} {v v2 : Value} {n : Nat} {xs : List Value} (h : Stk w lo ws v) (h2 : w.ownsRow lo2 35 3 v2 n xs) {b : Nat} (hb : v.ownBlock = some b) : v2.ownBlock ≠ some b := by
  intro e
  rcases h.2 with ⟨rfl, -⟩ | ⟨g, cap, cur, rfl, -, hh, -⟩
  · simp [Value.ownBlock] at hb
  · rcases h2.2 with ⟨rfl, -⟩ | ⟨g2, cap2, cur2, rfl, -, hh2, -⟩
    · simp [Value.ownBlock] at e
    · simp only [Value.ownBlock, Option.some.injEq] at hb e
      subst hb
      subst e
      rw [hh] at hh2
      simp at hh2
theorem copk_push {wr w1 w3 : World} {lo : Nat} {G : List Ce} {v v' kv : Value} {ws : List Nat} {o n : Int} {xs : List Value} (h : KStk wr lo G v xs) (hlo : lo ≤ wr.heap.size) (h1 : Below wr.heap.size wr w1) (hst : Stk w1 wr.heap.size ws kv) (obj : Obj)
    (hown : w3.ownsRow lo 35 3 v' (G.length + 1) (xs ++ [.int .i64 o, .int .i64 n, kv])) (hg : (w1.alloc obj).grownBy w3 v.ownBlock) :
    KStk w3 lo (G ++ [⟨o, n, ws.map fun (a : Nat) => (a : Int)⟩]) v' (xs ++ [.int .i64 o, .int .i64 n, kv]) := by
  have hs1 := h1.size
  obtain ⟨hrow, KV, hk, hd⟩ := h
  have hlen := hrow.1
  have hrowlt : ∀ k, v.ownBlock = some k → k < wr.heap.size := fun k hk => (own_some hrow k hk).2
  have oldkv : ∀ j (hj : j < G.length), ∀ b, (KV j).ownBlock = some b → b < wr.heap.size := fun j hj b hb => by
    obtain ⟨ws, hs, -⟩ := (hk j hj).2
    exact (own_some hs b hb).2
  refine ⟨by simpa using hown, fun j => if j = G.length then kv else KV j, fun j hj => ?_, fun i j hi hj hij b hb => ?_⟩
  · by_cases hjl : j < G.length
    · obtain ⟨e1, ws', e2, e3⟩ := hk j hjl
      simp only [if_neg (show ¬ j = G.length by omega)]
      refine ⟨by rw [List.getElem?_append_left (by omega)]; exact e1, ws', stk_keep e2 fun k hk2 hk3 => ?_, by rw [List.getElem_append_left hjl]; exact e3⟩
      have hne := stk_not_cells e2 hrow hk2
      exact (hg.block k (by rw [Deep.nblk_alloc]; omega) (fun e => hne e.symm)).trans ((Deep.blk_alloc_lt _ _ _ (by omega)).trans (h1.block k hk3))
    · have hj' : j = G.length := by simp at hj; omega
      subst hj'
      simp only [if_pos]
      have hstA : Stk w3 lo ws kv := by
        refine stk_keep (w := w1.alloc obj) (stk_keep (hst.lower hlo) fun k hk2 hk3 => Deep.blk_alloc_lt _ _ _ hk3) fun k hk2 hk3 => hg.block k hk3 (fun e => ?_)
        have h3 := (own_some hst k hk2).1
        have h4 := hrowlt k e.symm
        omega
      exact ⟨by rw [List.getElem?_append_right (by omega)]; simp [hlen], ws, hstA, by simp⟩
  · simp only [List.length_append, List.length_cons, List.length_nil] at hi hj
    by_cases hil : i = G.length
    · have hjl : ¬ j = G.length := by omega
      simp only [if_pos hil, if_neg hjl] at hb ⊢
      intro e
      have := oldkv j (by omega) b e
      have := (own_some hst b hb).1
      omega
    · simp only [if_neg hil] at hb
      by_cases hjl : j = G.length
      · simp only [if_pos hjl]
        intro e
        have := oldkv i (by omega) b hb
        have := (own_some hst b e).1
        omega
      · simp only [if_neg hjl]
        exact hd i j (by omega) (by omega) hij b hb
/-- a copy of a graph that can be written to -/
def CopyResK (g : List Ce) (w : World) (e : Ending) (w' : World) : Prop := ∃ gv xs, e = .returned gv ∧ OwnC w' w.heap.size (fun b => w.heap.size ≤ b) g gv ∧ KStk w' w.heap.size g gv xs ∧ Below w.heap.size w w'

set_option maxRecDepth 100000 in
set_option maxHeartbeats 1600000 in
theorem l3CopyK_calls (g : List Ce) (v : Value) (w : World) (hk : CIn w g v) (hg : ∃ defs, graphB g defs = true) : Calls Try.prog 67 #[v] w (CopyResK g w) := by
  have HK : Hid (CIn w g v) := hk
  obtain ⟨defs, hg⟩ := hg
  have HG : Hid (graphB g defs = true) := hg
  obtain ⟨ad, cap, rfl, hl, hm, -⟩ := hk
  unfold maxLen at hm
  have h400 : g.length ≤ 400 := graphB_len hg
  clear hg
  go_enter Try.func67, Try.ntmps67
  go_wp2_with fail
  have HST : Hid (OwnC (w.alloc (.cells #[] 35)) w.heap.size (fun b => w.heap.size ≤ b) (g.take 0) (.slice (some ⟨w.heap.size, 0, none⟩) 0 0)) :=
    ⟨fun i h => absurd h (by simp), [], fun _ => 0, ⟨rfl, Or.inr ⟨w.heap.size, 0, #[], rfl, Nat.le_refl _, Deep.blk_alloc_new _ _, Nat.le_refl _, by simp [maxLen], rfl, rfl⟩⟩, fun j hj => absurd hj (by simp), fun i j hi _ => absurd hi (by simp)⟩
  have HST2 : Hid (KStk (w.alloc (.cells #[] 35)) w.heap.size (g.take 0) (.slice (some ⟨w.heap.size, 0, none⟩) 0 0) []) := KStk.nil (Deep.blk_alloc_new _ _) (Nat.le_refl _)
  go_loopw [3, 4] (fun out i wr => ∃ k : Nat, k ≤ g.length ∧ i = .int .i64 k ∧ Hid (∃ xs, KStk wr w.heap.size (g.take k) out xs) ∧ OwnC wr w.heap.size (fun b => w.heap.size ≤ b) (g.take k) out ∧ Below w.heap.size w wr) (fun _ i _ => g.length - (intOf i).toNat)
  case atStart => exact ⟨0, Nat.zero_le _, rfl, ⟨_, HST2.out⟩, HST.out, box_below _ _⟩
  case round =>
    obtain ⟨k, hk, rfl, HKS, hown, hb⟩ := hrel
    have HO : Hid (OwnC wr w.heap.size (fun b => w.heap.size ≤ b) (g.take k) u3) := hown
    have HB : Hid (Below w.heap.size w wr) := hb
    have hsz := hb.size
    by_cases hlt : k < g.length
    · obtain ⟨bl, off, r2, rfl, c0w, c1w, c2w, io, iN, hkk⟩ := HK.out.at k hlt
      have HKK : Hid (IIn wr g[k].kids r2) := hkk.next hb
      have HLW : Hid (bl < w.heap.size) := cell_lt c0w
      have c0 := (hb.cell (p := ⟨bl, off + k * 3, none⟩) HLW.out).trans c0w
      have c1 := (hb.cell (p := ⟨bl, off + k * 3 + 1, none⟩) HLW.out).trans c1w
      have c2 := (hb.cell (p := ⟨bl, off + k * 3 + 2, none⟩) HLW.out).trans c2w
      have HC : Hid (w.cell? ⟨bl, off + k * 3, none⟩ = some (.int .i64 g[k].op) ∧ w.cell? ⟨bl, off + k * 3 + 1, none⟩ = some (.int .i64 g[k].num) ∧ w.cell? ⟨bl, off + k * 3 + 2, none⟩ = some r2) := ⟨c0w, c1w, c2w⟩
      clear c0w c1w c2w
      have HIO : Hid (I64 g[k].op ∧ I64 g[k].num) := ⟨io, iN⟩
      have lg := cell_lt c0
      have HTL : Hid ((g.take k).length = k) := by rw [Hid, List.length_take]; omega
      obtain ⟨adk, capk, rfl, -, -, -⟩ := id hkk
      clear hown hb hkk io iN
      obtain ⟨xs, hks⟩ := HKS.out
      have HKX : Hid (KStk wr w.heap.size (g.take k) u3 xs) := hks
      have hx := hks.1
      clear hks
      rw [HTL.out] at hx
      have HX : Hid (wr.ownsRow w.heap.size 35 3 u3 k xs) := hx
      obtain ⟨iC, zC, hII⟩ := infoC1
      have HII : Hid (Try.prog.info? 35 = some iC ∧ iC.zero = some zC ∧ iC.size = 3 ∧ iC.bytes = 40 ∧ zC.cells.size = 3) := hII
      have HK3 : Hid (g[k].kids.length ≤ 3) := (kids_graph HG.out k hlt).1
      have HKN : Hid ((kidsN g k).length = g[k].kids.length) := by rw [Hid, kidsN_at k hlt]; simp
      clear hII hx
      go_wp2_with fail
      go_region_held3 (fun w' => w'.cell? ⟨bl, off + k * 3, none⟩ = some (.int .i64 g[k].op) ∧ w'.cell? ⟨bl, off + k * 3 + 1, none⟩ = some (.int .i64 g[k].num) ∧ w'.cell? ⟨bl, off + k * 3 + 2, none⟩ = some (.slice adk g[k].kids.length capk))
        (first
          | go_keep
          | exact ⟨e0, e1, e2⟩
          | exact ⟨d0, d1, d2⟩
          | exact ⟨old_cell d0 _, old_cell d1 _, old_cell d2 _⟩
          | exact ⟨old_cell c0 _, old_cell c1 _, old_cell c2 _⟩)
        (first
          | (refine step_push (by rfl) (.tmp 23) (.tmp 28) (by rfl) wr.heap.size [] (kidsN g k) (.slice (some ⟨wr.heap.size, 0, none⟩) 0 0) (.slice adk g[k].kids.length capk) (by rfl) (stk_zero (Deep.blk_alloc_new wr _) (Nat.le_refl _)) (by rfl) (HKK.out.next ((box_below wr _).drew)) (kids_back HG.out k hlt) (by show wr.heap.size ≤ (wr.alloc _).heap.size; rw [Deep.nblk_alloc]; omega) (by rw [HKN.out]; have := HK3.out; simp only [List.length_nil]; omega) ?_; intro v1 w1 hst1 hg1; have HB1 : Hid (Below wr.heap.size wr w1) := copy_below hg1; have HST1 : Hid (Stk w1 wr.heap.size (kidsN g k) v1) := hst1; obtain ⟨ad1, cap1, rfl⟩ := stk_len2 hst1 HKN.out; have d0 := (HB1.out.cell (p := ⟨bl, off + k * 3, none⟩) lg).trans c0; have d1 := (HB1.out.cell (p := ⟨bl, off + k * 3 + 1, none⟩) lg).trans c1; have d2 := (HB1.out.cell (p := ⟨bl, off + k * 3 + 2, none⟩) lg).trans c2; clear hst1 hg1)
          | (refine step_append_where (by rfl) (.tmp 12) (.tmp 31) 23 (by rfl) w.heap.size 35 iC zC 3 40 Try.underlying23 HII.out.1 HII.out.2.1 HII.out.2.2.1 HII.out.2.2.2.1 HII.out.2.2.2.2 (by decide) u3 k xs (by rfl) (copy_own HX.out HB1.out _) ⟨w1.heap.size, 0, none⟩ 1 1 [.int .i64 g[k].op, .int .i64 g[k].num, .slice ad1 g[k].kids.length cap1] (by rfl) (by rfl) (news3c w1 _ _ _) (by simp [Value.oneCell']) (by unfold maxLen; omega) (by omega) (by show w.heap.size ≤ (w1.alloc _).heap.size; rw [Deep.nblk_alloc]; have := HB1.out.size; omega) (by omega) ?_; intro v3 w3 hown3 hg3 hw3; have HOWN3 : Hid (w3.ownsRow w.heap.size 35 3 v3 (k + 1) (xs ++ [.int .i64 g[k].op, .int .i64 g[k].num, .slice ad1 g[k].kids.length cap1])) := hown3; have HG3 : Hid ((w1.alloc (.cells #[.int .i64 g[k].op, .int .i64 g[k].num, .slice ad1 g[k].kids.length cap1] 35)).grownBy w3 u3.ownBlock) := hg3; have HB3 : Hid (Below w.heap.size w w3) := copy_below3 HB.out HB1.out HX.out hg3; have e0 := (HB3.out.cell (p := ⟨bl, off + k * 3, none⟩) HLW.out).trans HC.out.1; have e1 := (HB3.out.cell (p := ⟨bl, off + k * 3 + 1, none⟩) HLW.out).trans HC.out.2.1; have e2 := (HB3.out.cell (p := ⟨bl, off + k * 3 + 2, none⟩) HLW.out).trans HC.out.2.2; clear hown3 hg3 hw3))
      go_wp2_with fail
      go_roundw
      case rel =>
        refine ⟨k + 1, by omega, by go_num, ?_, ?_, HB3.out⟩
        · have h := copk_push (ws := kidsN g k) (o := g[k].op) (n := g[k].num) HKX.out HB.out.size HB1.out HST1.out _ (by rw [HTL.out]; exact HOWN3.out) HG3.out
          rw [← kids_back HG.out k hlt] at h
          rw [List.take_succ_eq_append_getElem hlt]
          exact ⟨_, h⟩
        have h := copy_push (G := g.take k) (ws := kidsN g k) (o := g[k].op) (n := g[k].num) HO.out HB.out.size HB1.out HST1.out _ (by rw [HTL.out]; exact copy_own HX.out HB1.out _) (by rw [HTL.out]; exact HOWN3.out) HG3.out HIO.out.1 HIO.out.2
        rw [← kids_back HG.out k hlt] at h
        rw [List.take_succ_eq_append_getElem hlt]
        exact h
      case measure => simp [intOf]; omega
    · have hke : k = g.length := by omega
      have HKE : Hid (∃ xs, KStk wr w.heap.size g u3 xs) := by
        have h := HKS.out
        rw [hke, List.take_length] at h
        exact h
      have HE : Hid (OwnC wr w.heap.size (fun b => w.heap.size ≤ b) g u3) := by
        have h := HO.out
        rw [hke, List.take_length] at h
        exact h
      clear hown hb hke
      go_wp2_with fail
      go_ret
      obtain ⟨xs, hxs⟩ := HKE.out
      exact ⟨_, xs, rfl, HE.out, hxs, HB.out⟩
end Go.Proofs.Ytjdlfpdljmohiaa

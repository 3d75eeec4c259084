/-
  PLAIN FACTS ON GRAPHS: which lists of cells are graphs; where indirections lead. No program is named here.
-/
import Derived.Test.YtiipcgnkfhjpeaaGreatDoorMgExactStepRun4
import Derived.Test.YtiipcgnkfhjpeaaGreatDoorProg
import Derived.Test.YtiipcgnkfhjpeaaGreatDoorMgExactStepRun1
import Derived.Deep.RegionWith
import Derived.Deep.DeepMust
import Derived.Deep.QuietTactic
import Derived.BigQuiet
namespace Go.Proofs.YtiipcgnkfhjpeaaGreatDoor
set_option linter.unusedVariables false
set_option linter.unusedSimpArgs false

/-- how many operands a kind of cell has -/
def cArity (op : Int) : Int := if op = 11 then 1 else arity op
/-- are these cells of a graph? -/
def isAt (cells : Int) (k : Int) : Bool := decide (0 ≤ k ∧ k < cells)
/-- has a cell the fields of its kind, whatever its operands? -/
def fitsB (defs : Int) (c : Ce) : Bool := decide ((c.kids.length : Int) = cArity c.op) && ownB c.op c.num 0 defs
/-- is it a cell of a graph with some cells? -/
def cellB (cells defs : Int) (c : Ce) : Bool := fitsB defs c && c.kids.all (isAt cells)
def graphB (g : List Ce) (defs : Int) : Bool := decide ((g.length : Int) ≤ 400 ∧ 0 ≤ defs ∧ defs ≤ 6) && g.all (cellB g.length defs)

theorem ownB_var (n defs : Int) : ownB 1 n 0 defs = false := by unfold ownB; rw [if_pos rfl, decide_eq_false]; omega
theorem allI_take_succ {α : Type} (p : α → Bool) (l : List α) (i : Nat) (h : i < l.length) : (l.take (i + 1)).all p = ((l.take i).all p && p l[i]) := by
  rw [List.take_succ_eq_append_getElem h, List.all_append]; simp
theorem allI_false_of {α : Type} (p : α → Bool) (l : List α) (i : Nat) (h : i < l.length) (hp : p l[i] = false) : l.all p = false := by
  rw [List.all_eq_false]; exact ⟨l[i], List.getElem_mem h, by simp [hp]⟩

/-! ### Indirections -/
/-- the first operand -/
def kid0 (c : Ce) : Int := c.kids.getD 0 0
/-- the cell for which a cell stands -/
def nxt (g : List Ce) (a : Nat) : Nat := (kid0 (g.getD a ⟨0, 0, []⟩)).toNat
def opAt (g : List Ce) (a : Nat) : Int := (g.getD a ⟨0, 0, []⟩).op
/-- the first cell that is no indirection, after at most n looks -/
def followN (g : List Ce) : Nat → Nat → Option Nat
  | 0, _ => none
  | n + 1, a => if opAt g a = 11 then followN g n (nxt g a) else some a
/-- where n steps lead -/
def chase (g : List Ce) (a : Nat) : Nat → Nat
  | 0 => a
  | n + 1 => nxt g (chase g a n)
theorem chase_succ (g : List Ce) (a n : Nat) : chase g a (n + 1) = chase g (nxt g a) n := by
  induction n with
  | zero => rfl
  | succ n ih => rw [chase, ih]; rfl
theorem chase_add (g : List Ce) (a : Nat) (i k : Nat) : chase g a (i + k) = chase g (chase g a i) k := by
  induction k with
  | zero => rfl
  | succ k ih => rw [← Nat.add_assoc, chase, ih]; rfl
theorem followN_none {g : List Ce} : ∀ (n a : Nat), followN g n a = none → ∀ i, i < n → opAt g (chase g a i) = 11
  | 0, _, _, i, hi => absurd hi (by omega)
  | n + 1, a, h, i, hi => by
    unfold followN at h
    split at h
    · rename_i h1
      cases i with
      | zero => exact h1
      | succ i => rw [chase_succ]; exact followN_none n _ h i (by omega)
    · simp at h
/-- one more look -/
theorem followN_succ (g : List Ce) : ∀ (n a : Nat), followN g (n + 1) a = (followN g n a).or (if opAt g (chase g a n) = 11 then none else some (chase g a n))
  | 0, a => by rw [followN, followN, Option.none_or]; rfl
  | n + 1, a => by
    rw [followN]
    conv => rhs; rw [followN]
    split
    · rw [followN_succ g n (nxt g a), chase_succ]
    · simp

theorem pigeon : ∀ (n m : Nat) (f : Nat → Nat), (∀ i, i < m → f i < n) → (∀ i j, i < m → j < m → f i = f j → i = j) → m ≤ n
  | 0, m, f, hf, _ => by
    cases m with
    | zero => omega
    | succ m => exact absurd (hf 0 (by omega)) (by omega)
  | n + 1, 0, _, _, _ => by omega
  | n + 1, m + 1, f, hf, hi => by
    have := pigeon n m (fun i => if f i = n then f m else f i) (fun i h => by
      have h1 := hf i (by omega)
      have h2 := hf m (by omega)
      show (if f i = n then f m else f i) < n
      split
      · rename_i e
        have : f m ≠ n := fun e2 => by have := hi i m (by omega) (by omega) (by rw [e, e2]); omega
        omega
      · omega) (fun i j h1 h2 e => by
      have e : (if f i = n then f m else f i) = (if f j = n then f m else f j) := e
      split at e <;> split at e
      · rename_i a b; exact hi i j (by omega) (by omega) (by rw [a, b])
      · have := hi m j (by omega) (by omega) e; omega
      · have := hi i m (by omega) (by omega) e; omega
      · exact hi i j (by omega) (by omega) e)
    omega

theorem graphB_cell {g : List Ce} {defs : Int} (h : graphB g defs = true) (a : Nat) (ha : a < g.length) : cellB g.length defs g[a] = true := by
  unfold graphB at h
  simp only [Bool.and_eq_true, List.all_eq_true] at h
  exact h.2 _ (List.getElem_mem ha)
theorem graphB_len {g : List Ce} {defs : Int} (h : graphB g defs = true) : g.length ≤ 400 := by
  unfold graphB at h
  simp only [Bool.and_eq_true, decide_eq_true_eq] at h
  omega
theorem getD_at {α : Type} (g : List α) (d : α) (a : Nat) (ha : a < g.length) : g.getD a d = g[a] := by simp [ha]
/-- an indirection of a graph has one operand, a cell -/
theorem ind_kid {g : List Ce} {defs : Int} (h : graphB g defs = true) (a : Nat) (ha : a < g.length) (ho : g[a].op = 11) : ∃ k : Nat, g[a].kids = [(k : Int)] ∧ k < g.length ∧ nxt g a = k := by
  have hc := graphB_cell h a ha
  unfold cellB fitsB cArity at hc
  simp only [Bool.and_eq_true, decide_eq_true_eq, List.all_eq_true, isAt] at hc
  obtain ⟨⟨h1, -⟩, h3⟩ := hc
  rw [if_pos ho] at h1
  obtain ⟨x, hx⟩ : ∃ x, g[a].kids = [x] := by
    have h2 : g[a].kids.length = 1 := by omega
    revert h2
    generalize g[a].kids = l
    intro h2
    match l, h2 with
    | [x], _ => exact ⟨x, rfl⟩
  have h4 := h3 x (by rw [hx]; simp)
  refine ⟨x.toNat, by rw [hx]; simp; omega, by omega, ?_⟩
  unfold nxt kid0
  rw [getD_at _ _ _ ha, hx]
  rfl
theorem nxt_lt {g : List Ce} {defs : Int} (h : graphB g defs = true) (a : Nat) (ha : a < g.length) (ho : opAt g a = 11) : nxt g a < g.length := by
  unfold opAt at ho
  rw [getD_at _ _ _ ha] at ho
  obtain ⟨k, -, h2, h3⟩ := ind_kid h a ha ho
  omega
/-- as many looks as there are cells are enough -/
theorem follow_enough {g : List Ce} {defs : Int} (h : graphB g defs = true) (a : Nat) (ha : a < g.length) : followN g (g.length + 1) a = followN g g.length a := by
  rw [followN_succ]
  cases hf : followN g g.length a with
  | some b => rfl
  | none =>
    have hall := followN_none _ _ hf
    simp only [Option.none_or]
    split
    · rfl
    · rename_i hne
      exfalso
      have hlt : ∀ i, i ≤ g.length → chase g a i < g.length := by
        intro i
        induction i with
        | zero => intro _; exact ha
        | succ i ih => intro hi; rw [chase]; exact nxt_lt h _ (ih (by omega)) (hall i (by omega))
      have := pigeon g.length (g.length + 1) (chase g a) (fun i hi => hlt i (by omega)) (by
        have key : ∀ i j, i < j → j ≤ g.length → chase g a i ≠ chase g a j := by
          intro i j hij hj e
          have e1 : chase g a (i + (g.length - j)) = chase g a (j + (g.length - j)) := by rw [chase_add, chase_add, e]
          have e2 := hall (i + (g.length - j)) (by omega)
          rw [e1, show j + (g.length - j) = g.length by omega] at e2
          exact hne e2
        intro i j hi hj e
        rcases Nat.lt_trichotomy i j with h1 | h1 | h1
        · exact absurd e (key i j h1 (by omega))
        · exact h1
        · exact absurd e.symm (key j i h1 (by omega)))
      omega
theorem followN_lt {g : List Ce} {defs : Int} (h : graphB g defs = true) : ∀ (n a b : Nat), a < g.length → followN g n a = some b → b < g.length ∧ opAt g b ≠ 11
  | 0, _, _, _, e => by simp [followN] at e
  | n + 1, a, b, ha, e => by
    unfold followN at e
    split at e
    · rename_i ho
      exact followN_lt h n _ b (nxt_lt h a ha ho) e
    · rename_i ho
      cases e
      exact ⟨ha, ho⟩
end Go.Proofs.YtiipcgnkfhjpeaaGreatDoor
/-
  THE MODEL's l3Follow; nothing that was there is changed.
-/
namespace Go.Proofs.YtiipcgnkfhjpeaaGreatDoor
set_option linter.unusedVariables false
set_option linter.unusedSimpArgs false
open Go.RowKit

/-- what l3Follow answers: the place, or -1 -/
def folI (o : Option Nat) : Int := match o with | some b => (b : Int) | none => -1
theorem followN_ind {g : List Ce} {n a : Nat} (h : opAt g a = 11) : followN g (n + 1) a = followN g n (nxt g a) := by rw [followN, if_pos h]
theorem followN_stop {g : List Ce} {n a : Nat} (h : ¬ opAt g a = 11) : followN g (n + 1) a = some a := by rw [followN, if_neg h]
theorem opAt_at {g : List Ce} (a : Nat) (ha : a < g.length) : opAt g a = g[a].op := by unfold opAt; rw [getD_at _ _ _ ha]

set_option maxHeartbeats 800000 in
theorem l3Follow_calls (g : List Ce) (a : Nat) (v : Value) (w : World) (hk : CIn w g v) (hg : ∃ defs, graphB g defs = true) (ha : a < g.length) :
    Calls Tryz.prog 72 #[v, .int .i64 (a : Int)] w fun e w' => e = .returned (.int .i64 (folI (followN g (g.length + 1) a))) ∧ Below w.heap.size w w' := by
  have HK : Hid (CIn w g v) := hk
  obtain ⟨ad, cap, rfl, hl, hm, -⟩ := hk
  unfold maxLen at hm
  obtain ⟨defs, hg⟩ := hg
  have HG : Hid (graphB g defs = true) := hg
  have h400 : g.length ≤ 400 := graphB_len hg
  clear hg
  go_enter Tryz.func72, Tryz.ntmps72
  go_wp2_with fail
  go_loopw [1, 5] (fun at' i wr => ∃ k b : Nat, k ≤ g.length + 1 ∧ i = .int .i64 k ∧ at' = .int .i64 (b : Int) ∧ b < g.length ∧ followN g (g.length + 1) a = followN g (g.length + 1 - k) b ∧ Below w.heap.size w wr) (fun _ i _ => g.length + 1 - (intOf i).toNat)
  case atStart => exact ⟨0, a, Nat.zero_le _, rfl, rfl, ha, rfl, Below.refl _ _⟩
  case round =>
    obtain ⟨k, b, hk, rfl, rfl, hbl, hf, hb⟩ := hrel
    have HF : Hid (followN g (g.length + 1) a = followN g (g.length + 1 - k) b) := hf
    have HB : Hid (Below w.heap.size w wr) := hb
    clear hf
    by_cases hlt : k ≤ g.length
    · have HLT : Hid (k ≤ g.length) := hlt
      obtain ⟨bl, off, r, rfl, c0, c1, c2, -, -, hkk⟩ := (HK.out.next hb).at b hbl
      clear hb
      by_cases ho : g[b].op = 11
      · obtain ⟨y, hy1, hy2, hy3⟩ := ind_kid HG.out b hbl ho
        have HV : Hid (followN g (g.length + 1) a = followN g (g.length + 1 - (k + 1)) y) := by
          have h1 := HF.out
          rw [show g.length + 1 - k = (g.length + 1 - (k + 1)) + 1 by omega] at h1
          exact h1.trans ((followN_ind (by rw [opAt_at b hbl]; exact ho)).trans (by rw [hy3]))
        have t1 : (g[b].op != 11) = false := by simp [ho]
        obtain ⟨ad2, cap2, rfl, hl2, hm2, -⟩ := id hkk
        obtain ⟨bl2, off2, rfl, d0⟩ := hkk.at 0 (by rw [hy1]; simp)
        have hlen1 : g[b].kids.length = 1 := by rw [hy1]; rfl
        have hkid : g[b].kids[0]'(by omega) = (y : Int) := by simp [hy1]
        rw [hkid, Nat.add_zero] at d0
        rw [hlen1] at c2
        clear ho hy1 hy3 hkid hlen1 hkk hl2 hm2
        go_wp2_with fail
        go_roundw
        case rel => exact ⟨k + 1, y, by have := HLT.out; omega, by go_num, rfl, hy2, HV.out, HB.out⟩
        case measure => have := HLT.out; simp [intOf]; omega
      · have HV : Hid (folI (followN g (g.length + 1) a) = (b : Int)) := by
          have h1 := HF.out
          rw [show g.length + 1 - k = (g.length - k) + 1 by omega] at h1
          rw [Hid, h1.trans (followN_stop (by rw [opAt_at b hbl]; exact ho))]; rfl
        have t1 : (g[b].op != 11) = true := by simpa using ho
        clear ho hkk
        go_wp2_with fail
        go_ret
        exact ⟨ret_int HV.out.symm, HB.out⟩
    · have HV : Hid (folI (followN g (g.length + 1) a) = -1) := by
        have := HF.out
        rw [show g.length + 1 - k = 0 by omega] at this
        rw [Hid, this]; rfl
      clear hb
      go_wp2_with fail
      go_ret
      exact ⟨ret_int HV.out.symm, HB.out⟩

theorem ret_ib {a b : Int} {p q : Bool} (h : a = b) (h' : p = q) : Ending.returned (.tuple #[.int .i64 a, .bool p]) = .returned (.tuple #[.int .i64 b, .bool q]) := by rw [h, h']

end Go.Proofs.YtiipcgnkfhjpeaaGreatDoor
/-
  PLAIN FACTS ON WHAT CAN BE REACHED IN A GRAPH: the two searches (marked when taken from the work, marked when added to it), each with what holds behind every step. No program is named here.
-/
namespace Go.Proofs.YtiipcgnkfhjpeaaGreatDoor
set_option linter.unusedVariables false
set_option linter.unusedSimpArgs false

/-- the operands of a cell, as places -/
def kidsN (g : List Ce) (a : Nat) : List Nat := (g.getD a ⟨0, 0, []⟩).kids.map Int.toNat
inductive Reach (g : List Ce) (r : Nat) : Nat → Prop
  | root : Reach g r r
  | kid (a k : Nat) : Reach g r a → k ∈ kidsN g a → Reach g r k

theorem arity_le (op : Int) : cArity op ≤ 3 := by unfold cArity arity; repeat' split; all_goals omega
theorem kids_graph {g : List Ce} {defs : Int} (h : graphB g defs = true) (a : Nat) (ha : a < g.length) : g[a].kids.length ≤ 3 ∧ ∀ k ∈ g[a].kids, 0 ≤ k ∧ k < g.length := by
  have hc := graphB_cell h a ha
  unfold cellB fitsB at hc
  simp only [Bool.and_eq_true, decide_eq_true_eq, List.all_eq_true, isAt] at hc
  obtain ⟨⟨h1, -⟩, h3⟩ := hc
  have := arity_le g[a].op
  exact ⟨by omega, h3⟩
theorem kidsN_at {g : List Ce} (a : Nat) (ha : a < g.length) : kidsN g a = g[a].kids.map Int.toNat := by unfold kidsN; rw [getD_at _ _ _ ha]
theorem kidsN_len {g : List Ce} {defs : Int} (h : graphB g defs = true) (a : Nat) (ha : a < g.length) : (kidsN g a).length ≤ 3 := by rw [kidsN_at a ha]; simpa using (kids_graph h a ha).1
theorem kidsN_lt {g : List Ce} {defs : Int} (h : graphB g defs = true) (a : Nat) (ha : a < g.length) (k : Nat) (hk : k ∈ kidsN g a) : k < g.length := by
  rw [kidsN_at a ha] at hk
  simp only [List.mem_map] at hk
  obtain ⟨x, hx, rfl⟩ := hk
  have := (kids_graph h a ha).2 x hx
  omega
/-- operand j, as a number -/
theorem kidsN_get {g : List Ce} {defs : Int} (h : graphB g defs = true) (a : Nat) (ha : a < g.length) (j : Nat) (hj : j < g[a].kids.length) : ∃ k : Nat, g[a].kids[j] = (k : Int) ∧ k < g.length ∧ (kidsN g a)[j]? = some k := by
  have h1 := (kids_graph h a ha).2 _ (List.getElem_mem hj)
  refine ⟨(g[a].kids[j]).toNat, by omega, by omega, ?_⟩
  rw [kidsN_at a ha]
  simp [hj]

def setF (f : Nat → Bool) (a : Nat) : Nat → Bool := fun b => if b = a then true else f b
theorem setF_same (f : Nat → Bool) (a : Nat) : setF f a a = true := by simp [setF]
theorem setF_of {f : Nat → Bool} {a b : Nat} (h : f b = true) : setF f a b = true := by unfold setF; split <;> simp_all
theorem setF_inv {f : Nat → Bool} {a b : Nat} (h : setF f a b = true) : b = a ∨ f b = true := by
  unfold setF at h; split at h
  · left; assumption
  · right; exact h
/-! ### The model's search: marked when it is taken -/
structure SInv (g : List Ce) (r : Nat) (f : Nat → Bool) (work : List Nat) : Prop where
  rt : f r = true ∨ r ∈ work
  fl : ∀ a, f a = true → Reach g r a ∧ a < g.length
  wk : ∀ a ∈ work, Reach g r a ∧ a < g.length
  cl : ∀ a, f a = true → ∀ k ∈ kidsN g a, f k = true ∨ k ∈ work
theorem SInv.start (g : List Ce) (r : Nat) (hr : r < g.length) : SInv g r (fun _ => false) [r] where
  rt := Or.inr (by simp)
  fl := by intro a h; cases h
  wk := by intro a h; simp only [List.mem_singleton] at h; subst h; exact ⟨.root, hr⟩
  cl := by intro a h; cases h
theorem SInv.old {g : List Ce} {r a : Nat} {f : Nat → Bool} {rest : List Nat} (h : SInv g r f (rest ++ [a])) (ha : f a = true) : SInv g r f rest where
  rt := by
    rcases h.rt with h1 | h1
    · exact Or.inl h1
    · rcases List.mem_append.1 h1 with h2 | h2
      · exact Or.inr h2
      · simp only [List.mem_singleton] at h2; subst h2; exact Or.inl ha
  fl := h.fl
  wk := fun b hb => h.wk b (List.mem_append_left _ hb)
  cl := fun b hb k hk => by
    rcases h.cl b hb k hk with h1 | h1
    · exact Or.inl h1
    · rcases List.mem_append.1 h1 with h2 | h2
      · exact Or.inr h2
      · simp only [List.mem_singleton] at h2; subst h2; exact Or.inl ha
theorem SInv.new {g : List Ce} {r a : Nat} {defs : Int} {f : Nat → Bool} {rest : List Nat} (hg : graphB g defs = true) (h : SInv g r f (rest ++ [a])) : SInv g r (setF f a) (rest ++ kidsN g a) := by
  have ha := h.wk a (List.mem_append_right _ (by simp))
  refine ⟨?_, fun b hb => ?_, fun b hb => ?_, fun b hb k hk => ?_⟩
  · rcases h.rt with h1 | h1
    · exact Or.inl (setF_of h1)
    · rcases List.mem_append.1 h1 with h2 | h2
      · exact Or.inr (List.mem_append_left _ h2)
      · simp only [List.mem_singleton] at h2; subst h2; exact Or.inl (setF_same _ _)
  · rcases setF_inv hb with rfl | h1
    · exact ha
    · exact h.fl b h1
  · rcases List.mem_append.1 hb with h1 | h1
    · exact h.wk b (List.mem_append_left _ h1)
    · exact ⟨.kid a b ha.1 h1, kidsN_lt hg a ha.2 b h1⟩
  · rcases setF_inv hb with rfl | h1
    · exact Or.inr (List.mem_append_right _ hk)
    · rcases h.cl b h1 k hk with h2 | h2
      · exact Or.inl (setF_of h2)
      · rcases List.mem_append.1 h2 with h3 | h3
        · exact Or.inr (List.mem_append_left _ h3)
        · simp only [List.mem_singleton] at h3; subst h3; exact Or.inl (setF_same _ _)
theorem SInv.done {g : List Ce} {r : Nat} {f : Nat → Bool} (h : SInv g r f []) (a : Nat) : f a = true ↔ Reach g r a := by
  refine ⟨fun h1 => (h.fl a h1).1, fun h1 => ?_⟩
  induction h1 with
  | root => rcases h.rt with h1 | h1; exact h1; simp at h1
  | kid a k _ hk ih => rcases h.cl a ih k hk with h1 | h1; exact h1; simp at h1

/-! ### The program's search: marked when it is added -/
structure IInv (g : List Ce) (r : Nat) (f : Nat → Bool) (work : List Nat) : Prop where
  rt : f r = true
  fl : ∀ a, f a = true → Reach g r a ∧ a < g.length
  wk : ∀ a ∈ work, f a = true
  cl : ∀ a, f a = true → a ∈ work ∨ ∀ k ∈ kidsN g a, f k = true
/-- .. in the middle of the operands of a cell -/
structure MInv (g : List Ce) (r : Nat) (f : Nat → Bool) (work : List Nat) (at' j : Nat) : Prop where
  rt : f r = true
  fl : ∀ a, f a = true → Reach g r a ∧ a < g.length
  wk : ∀ a ∈ work, f a = true
  me : f at' = true
  cl : ∀ a, f a = true → a ∈ work ∨ a = at' ∨ ∀ k ∈ kidsN g a, f k = true
  js : ∀ i, i < j → ∀ k, (kidsN g at')[i]? = some k → f k = true
theorem IInv.start (g : List Ce) (r : Nat) (hr : r < g.length) : IInv g r (setF (fun _ => false) r) [r] where
  rt := setF_same _ _
  fl := by intro a h; rcases setF_inv h with rfl | h; exact ⟨.root, hr⟩; cases h
  wk := by intro a h; simp only [List.mem_singleton] at h; subst h; exact setF_same _ _
  cl := by intro a h; rcases setF_inv h with rfl | h; exact Or.inl (by simp); cases h
theorem IInv.pop {g : List Ce} {r a : Nat} {f : Nat → Bool} {rest : List Nat} (h : IInv g r f (rest ++ [a])) : MInv g r f rest a 0 where
  rt := h.rt
  fl := h.fl
  wk := fun b hb => h.wk b (List.mem_append_left _ hb)
  me := h.wk a (List.mem_append_right _ (by simp))
  cl := fun b hb => by
    rcases h.cl b hb with h1 | h1
    · rcases List.mem_append.1 h1 with h2 | h2
      · exact Or.inl h2
      · simp only [List.mem_singleton] at h2; exact Or.inr (Or.inl h2)
    · exact Or.inr (Or.inr h1)
  js := fun i hi => absurd hi (by omega)
theorem MInv.old {g : List Ce} {r a j k : Nat} {f : Nat → Bool} {work : List Nat} (h : MInv g r f work a j) (hk : (kidsN g a)[j]? = some k) (hf : f k = true) : MInv g r f work a (j + 1) where
  rt := h.rt
  fl := h.fl
  wk := h.wk
  me := h.me
  cl := h.cl
  js := fun i hi x hx => by
    by_cases e : i = j
    · subst e; rw [hk] at hx; cases hx; exact hf
    · exact h.js i (by omega) x hx
theorem MInv.new {g : List Ce} {r a j k : Nat} {f : Nat → Bool} {work : List Nat} (h : MInv g r f work a j) (hk : (kidsN g a)[j]? = some k) (hl : k < g.length) : MInv g r (setF f k) (work ++ [k]) a (j + 1) where
  rt := setF_of h.rt
  fl := fun b hb => by
    rcases setF_inv hb with rfl | h1
    · exact ⟨.kid a b (h.fl a h.me).1 (List.mem_of_getElem? hk), hl⟩
    · exact h.fl b h1
  wk := fun b hb => by
    rcases List.mem_append.1 hb with h1 | h1
    · exact setF_of (h.wk b h1)
    · simp only [List.mem_singleton] at h1; subst h1; exact setF_same _ _
  me := setF_of h.me
  cl := fun b hb => by
    rcases setF_inv hb with rfl | h1
    · exact Or.inl (by simp)
    · rcases h.cl b h1 with h2 | h2 | h2
      · exact Or.inl (List.mem_append_left _ h2)
      · exact Or.inr (Or.inl h2)
      · exact Or.inr (Or.inr fun x hx => setF_of (h2 x hx))
  js := fun i hi x hx => by
    by_cases e : i = j
    · subst e; rw [hk] at hx; cases hx; exact setF_same _ _
    · exact setF_of (h.js i (by omega) x hx)
theorem MInv.done {g : List Ce} {r a j : Nat} {f : Nat → Bool} {work : List Nat} (h : MInv g r f work a j) (hj : (kidsN g a).length ≤ j) : IInv g r f work where
  rt := h.rt
  fl := h.fl
  wk := h.wk
  cl := fun b hb => by
    rcases h.cl b hb with h1 | h1 | h1
    · exact Or.inl h1
    · subst h1
      refine Or.inr fun k hk => ?_
      obtain ⟨i, hi, e⟩ := List.mem_iff_getElem.1 hk
      exact h.js i (by omega) k (by rw [List.getElem?_eq_getElem hi, e])
    · exact Or.inr h1
theorem IInv.done {g : List Ce} {r : Nat} {f : Nat → Bool} (h : IInv g r f []) (a : Nat) : f a = true ↔ Reach g r a := by
  refine ⟨fun h1 => (h.fl a h1).1, fun h1 => ?_⟩
  induction h1 with
  | root => exact h.rt
  | kid a k _ hk ih => rcases h.cl a ih with h1 | h1; simp at h1; exact h1 k hk

theorem take_snoc {l : List Nat} {j k : Nat} (h : l[j]? = some k) : l.take (j + 1) = l.take j ++ [k] := by
  have hj := (List.getElem?_eq_some_iff.1 h).1
  have e := (List.getElem?_eq_some_iff.1 h).2
  rw [List.take_succ_eq_append_getElem hj, e]
end Go.Proofs.YtiipcgnkfhjpeaaGreatDoor
/-
  PLAIN FACTS ON NESTED APPLICATIONS IN A GRAPH, VALUES AND REDEXES.
-/
namespace Go.Proofs.YtiipcgnkfhjpeaaGreatDoor
set_option linter.unusedVariables false
set_option linter.unusedSimpArgs false

theorem kids_count {g : List Ce} {defs : Int} (h : graphB g defs = true) (a : Nat) (ha : a < g.length) : (g[a].kids.length : Int) = cArity g[a].op := by
  have hc := graphB_cell h a ha
  unfold cellB fitsB at hc
  simp only [Bool.and_eq_true, decide_eq_true_eq] at hc
  exact hc.1.1
/-- operand j of a cell, as a place -/
def kidAt (g : List Ce) (a j : Nat) : Nat := (kidsN g a).getD j 0
theorem kidAt_get {g : List Ce} {defs : Int} (h : graphB g defs = true) (a : Nat) (ha : a < g.length) (j : Nat) (hj : j < g[a].kids.length) : g[a].kids[j] = (kidAt g a j : Int) ∧ kidAt g a j < g.length := by
  obtain ⟨k, h1, h2, h3⟩ := kidsN_get h a ha j hj
  have e : kidAt g a j = k := by unfold kidAt; rw [List.getD_eq_getElem?_getD, h3]; rfl
  rw [e]; exact ⟨h1, h2⟩
/-- the function of nested applications and the cells of these, after at most n looks -/
def spineN (g : List Ce) : Nat → Nat → Option (Nat × List Nat)
  | 0, _ => none
  | n + 1, a => match followN g g.length a with
    | none => none
    | some f => if opAt g f = 4 then (spineN g n (kidAt g f 0)).map (fun x => (x.1, f :: x.2)) else some (f, [])
def spine (g : List Ce) (a : Nat) : Option (Nat × List Nat) := spineN g (g.length + 1) a

/-- what holds behind every look -/
structure SpRel (g : List Ce) (a : Nat) (ws : List Nat) (b : Nat) : Prop where
  eq : spine g a = (spineN g (g.length + 1 - ws.length) b).map fun x => (x.1, ws ++ x.2)
  len : ws.length ≤ g.length + 1
  lt : b < g.length
theorem SpRel.start {g : List Ce} {a : Nat} (h : a < g.length) : SpRel g a [] a := ⟨by unfold spine; simp, by simp, h⟩
theorem SpRel.none {g : List Ce} {a b : Nat} {ws : List Nat} (h : SpRel g a ws b) (hl : ws.length ≤ g.length) (hf : followN g g.length b = .none) : spine g a = .none := by
  rw [h.eq, show g.length + 1 - ws.length = (g.length - ws.length) + 1 by omega, spineN, hf]; rfl
theorem SpRel.out {g : List Ce} {a b : Nat} {ws : List Nat} (h : SpRel g a ws b) (hl : g.length < ws.length) : spine g a = .none := by
  rw [h.eq, show g.length + 1 - ws.length = 0 by omega, spineN]; rfl
theorem SpRel.fin {g : List Ce} {a b f : Nat} {ws : List Nat} (h : SpRel g a ws b) (hl : ws.length ≤ g.length) (hf : followN g g.length b = some f) (ho : ¬ opAt g f = 4) : spine g a = some (f, ws) := by
  rw [h.eq, show g.length + 1 - ws.length = (g.length - ws.length) + 1 by omega, spineN, hf]
  simp [ho]
theorem SpRel.next {g : List Ce} {defs : Int} {a b f : Nat} {ws : List Nat} (h : SpRel g a ws b) (hg : graphB g defs = true) (hl : ws.length ≤ g.length) (hf : followN g g.length b = some f) (ho : opAt g f = 4) : SpRel g a (ws ++ [f]) (kidAt g f 0) := by
  have hfl := (followN_lt hg _ _ _ h.lt hf).1
  refine ⟨?_, by simp; omega, (kidAt_get hg f hfl 0 ?_).2⟩
  · rw [h.eq, show g.length + 1 - ws.length = (g.length - ws.length) + 1 by omega, spineN, hf]
    simp only [ho, if_true, List.length_append, List.length_cons, List.length_nil, Nat.zero_add]
    rw [show g.length + 1 - (ws.length + 1) = g.length - ws.length by omega, Option.map_map]
    congr 1
    funext x
    simp
  · have := kids_count hg f hfl
    rw [opAt_at f hfl] at ho
    rw [ho] at this
    have e : cArity 4 = 2 := by decide
    omega
theorem spineN_ok {g : List Ce} {defs : Int} (hg : graphB g defs = true) : ∀ (n a f : Nat) (l : List Nat), a < g.length → spineN g n a = some (f, l) → f < g.length ∧ opAt g f ≠ 4 ∧ opAt g f ≠ 11 ∧ (∀ k ∈ l, k < g.length ∧ opAt g k = 4) ∧ l.length < n
  | 0, _, _, _, _, e => by simp [spineN] at e
  | n + 1, a, f, l, ha, e => by
    unfold spineN at e
    cases hf : followN g g.length a with
    | none => rw [hf] at e; simp at e
    | some b =>
      rw [hf] at e
      have hb := followN_lt hg _ _ _ ha hf
      simp only at e
      split at e
      · rename_i h4
        obtain ⟨⟨f', l'⟩, h1, h2⟩ := Option.map_eq_some_iff.1 e
        simp only [Prod.mk.injEq] at h2
        obtain ⟨rfl, rfl⟩ := h2
        have hk : kidAt g b 0 < g.length := by
          refine (kidAt_get hg b hb.1 0 ?_).2
          have := kids_count hg b hb.1
          rw [opAt_at b hb.1] at h4
          rw [h4] at this
          have e : cArity 4 = 2 := by decide
          omega
        obtain ⟨r1, r2, r3, r4, r5⟩ := spineN_ok hg n _ _ _ hk h1
        refine ⟨r1, r2, r3, fun k hk => ?_, by simp; omega⟩
        rcases List.mem_cons.1 hk with rfl | hk
        · exact ⟨hb.1, h4⟩
        · exact r4 k hk
      · rename_i h4
        simp only [Option.some.injEq, Prod.mk.injEq] at e
        obtain ⟨rfl, rfl⟩ := e
        exact ⟨hb.1, h4, hb.2, by simp, by simp⟩
theorem spine_ok {g : List Ce} {defs : Int} (hg : graphB g defs = true) {a f : Nat} {l : List Nat} (ha : a < g.length) (h : spine g a = some (f, l)) : f < g.length ∧ opAt g f ≠ 4 ∧ opAt g f ≠ 11 ∧ (∀ k ∈ l, k < g.length ∧ opAt g k = 4) ∧ l.length ≤ g.length := by
  obtain ⟨r1, r2, r3, r4, r5⟩ := spineN_ok hg _ _ _ _ ha h
  exact ⟨r1, r2, r3, r4, by omega⟩
/-- a cell that is neither an application nor an indirection is its own function -/
theorem spine_self {g : List Ce} {f : Nat} (hf : f < g.length) (h4 : opAt g f ≠ 4) (h11 : opAt g f ≠ 11) : spine g f = some (f, []) := by
  unfold spine spineN
  have e : followN g g.length f = some f := by
    obtain ⟨n, hn⟩ : ∃ n, g.length = n + 1 := ⟨g.length - 1, by omega⟩
    rw [hn]; exact followN_stop h11
  rw [e]; simp [h4]

def spF (o : Option (Nat × List Nat)) : Int := match o with | some x => (x.1 : Int) | none => 0
def spL (o : Option (Nat × List Nat)) : List Nat := match o with | some x => x.2 | none => []

/-! ### Values -/
def numAt (g : List Ce) (a : Nat) : Int := (g.getD a ⟨0, 0, []⟩).num
theorem numAt_at {g : List Ce} (a : Nat) (ha : a < g.length) : numAt g a = g[a].num := by unfold numAt; rw [getD_at _ _ _ ha]
/-- the arity of a function -/
def arOf (ars : List Int) (n : Int) : Int := (ars[n.toNat]?).getD 0
/-- does a cell stand for a value? -/
def valB (ars : List Int) (g : List Ce) (a : Nat) : Bool := match spine g a with
  | none => false
  | some (f, l) => if opAt g f = 2 ∨ opAt g f = 5 then decide (l.length = 0) else decide (opAt g f = 3) && decide ((l.length : Int) < arOf ars (numAt g f))

/-! ### Redexes -/
/-- the application of a function to as many cells as its arity says -/
def callAt (f : Nat) (l : List Nat) (ar : Int) : Nat := if ar = 0 then f else l.getD (l.length - ar.toNat) 0
/-- the kind of the cell for which a cell stands -/
def kindOf (g : List Ce) (a : Nat) : Option Int := (followN g g.length a).map (opAt g)
/-- does a step wait for an operand? none: it is stuck; some (some k): for k -/
def waitOne (ars : List Int) (g : List Ce) (k : Nat) (kind : Int) (rest : Option (Option Nat)) : Option (Option Nat) :=
  if valB ars g k = false then some (some k) else if kindOf g k = some kind then rest else none
def waits (ars : List Int) (g : List Ce) (f : Nat) : Option (Option Nat) :=
  if opAt g f = 6 ∨ opAt g f = 7 then waitOne ars g (kidAt g f 0) 5 (some none)
  else if opAt g f = 10 then waitOne ars g (kidAt g f 0) 2 (some none)
  else waitOne ars g (kidAt g f 0) 2 (waitOne ars g (kidAt g f 1) 2 (some none))
/-- the redex of a cell that stands for no value, after at most n operands -/
def redexN (ars : List Int) (g : List Ce) : Nat → Nat → Option Nat
  | 0, _ => none
  | n + 1, a => match spine g a with
    | none => none
    | some (f, l) =>
      if opAt g f = 3 then some (callAt f l (arOf ars (numAt g f)))
      else if opAt g f = 2 ∨ opAt g f = 5 then none
      else match waits ars g f with
        | none => none
        | some none => some f
        | some (some k) => redexN ars g n k
def redex (ars : List Int) (g : List Ce) (a : Nat) : Option Nat := redexN ars g (g.length + 1) a
end Go.Proofs.YtiipcgnkfhjpeaaGreatDoor
/-
  THE MODEL's l1Kids AND l1Own.
-/
namespace Go.Proofs.YtiipcgnkfhjpeaaGreatDoor
set_option linter.unusedVariables false
set_option linter.unusedSimpArgs false
open Go.RowKit

set_option maxHeartbeats 400000 in
theorem l1Kids_calls (op : Int) (w : World) : Calls Tryz.prog 108 #[.int .i64 op] w fun e w' => e = .returned (.int .i64 (arity op)) ∧ w = w' := by
  go_enter Tryz.func108, Tryz.ntmps108
  go_wp2_with fail
  all_goals go_ret
  all_goals refine ⟨ret_int ?_, rfl⟩
  all_goals show (_ : Int) = arity op
  all_goals unfold arity
  all_goals simp_all

set_option maxHeartbeats 400000 in
theorem l1Own_calls (op n vars defs : Int) (c : Value) (w : World) : Calls Tryz.prog 109 #[.agg #[.int .i64 op, .int .i64 n, c], .int .i64 vars, .int .i64 defs] w fun e w' => e = .returned (.bool (ownB op n vars defs)) ∧ Below w.heap.size w w' := by
  go_enter Tryz.func109, Tryz.ntmps109
  go_wp2_with fail
  all_goals go_ret
  all_goals refine ⟨ret_bool ?_, (Below.refl _ _).alloc (Nat.le_refl _) _⟩
  all_goals show (_ : Bool) = ownB op n vars defs
  all_goals unfold ownB
  all_goals simp_all
  all_goals (first | omega | rfl)

theorem own_true (op n vars defs : Int) (c : Value) (w : World) (h : ownB op n vars defs = true) : Calls Tryz.prog 109 #[.agg #[.int .i64 op, .int .i64 n, c], .int .i64 vars, .int .i64 defs] w fun e w' => e = .returned (.bool true) ∧ Below w.heap.size w w' := by
  have := l1Own_calls op n vars defs c w; rwa [h] at this
theorem own_false (op n vars defs : Int) (c : Value) (w : World) (h : ownB op n vars defs = false) : Calls Tryz.prog 109 #[.agg #[.int .i64 op, .int .i64 n, c], .int .i64 vars, .int .i64 defs] w fun e w' => e = .returned (.bool false) ∧ Below w.heap.size w w' := by
  have := l1Own_calls op n vars defs c w; rwa [h] at this

theorem l1Kids_below (op : Int) (w : World) : Calls Tryz.prog 108 #[.int .i64 op] w fun e w' => e = .returned (.int .i64 (arity op)) ∧ Below w.heap.size w w' :=
  (l1Kids_calls op w).mono fun _ _ ⟨h, e⟩ => ⟨h, e ▸ Below.refl _ _⟩
end Go.Proofs.YtiipcgnkfhjpeaaGreatDoor

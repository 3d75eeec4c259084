/-
  PLAIN FACTS ON A PROGRAM AND A GRAPH: arities; which cells stand for values.
-/
import Derived.Test.YthlblgibgfledaaDoorSpineT
import Derived.Test.YthlblgibgfledaaDoorValidProg
namespace Go.Proofs.YthlblgibgfledaaDoor
set_option linter.unusedVariables false
set_option linter.unusedSimpArgs false

/-- the arities -/
def arsOf (ds : List Df) : List Int := ds.map (·.1)
theorem arOf_at (ds : List Df) (n : Nat) (h : n < ds.length) : arOf (arsOf ds) (n : Int) = ds[n].1 := by
  unfold arOf arsOf
  simp [h]
theorem glob_num {g : List Ce} {defs : Int} (h : graphB g defs = true) (f : Nat) (hf : f < g.length) (ho : g[f].op = 3) : ∃ n : Nat, g[f].num = (n : Int) ∧ (n : Int) < defs := by
  have hc := graphB_cell h f hf
  unfold cellB fitsB ownB at hc
  simp only [ho, Bool.and_eq_true, decide_eq_true_eq] at hc
  have h2 := hc.1.2
  simp at h2
  exact ⟨g[f].num.toNat, by omega, by omega⟩
theorem valB_none {ars : List Int} {g : List Ce} {a : Nat} (h : spine g a = none) : valB ars g a = false := by unfold valB; rw [h]
theorem valB_num {ars : List Int} {g : List Ce} {a f : Nat} {l : List Nat} (h : spine g a = some (f, l)) (ho : opAt g f = 2 ∨ opAt g f = 5) : valB ars g a = decide (l.length = 0) := by
  unfold valB; rw [h]; exact if_pos ho
theorem valB_glob {ars : List Int} {g : List Ce} {a f : Nat} {l : List Nat} (h : spine g a = some (f, l)) (ho : opAt g f = 3) : valB ars g a = decide ((l.length : Int) < arOf ars (numAt g f)) := by
  unfold valB; rw [h]
  show (if opAt g f = 2 ∨ opAt g f = 5 then _ else _) = _
  rw [if_neg (by omega), decide_eq_true ho, Bool.true_and]
theorem valB_no {ars : List Int} {g : List Ce} {a f : Nat} {l : List Nat} (h : spine g a = some (f, l)) (h2 : opAt g f ≠ 2) (h5 : opAt g f ≠ 5) (h3 : opAt g f ≠ 3) : valB ars g a = false := by
  unfold valB; rw [h]
  show (if opAt g f = 2 ∨ opAt g f = 5 then _ else _) = _
  rw [if_neg (by omega), decide_eq_false h3, Bool.false_and]
/-- are a program, a graph and a cell valid together? -/
def rightB (ds : List Df) (g : List Ce) (root : Int) : Bool := progB ds && (graphB g ds.length && isAt g.length root)
def valO (ds : List Df) (g : List Ce) (root : Int) : Bool := rightB ds g root && valB (arsOf ds) g root.toNat
end Go.Proofs.YthlblgibgfledaaDoor

/-
  PLAIN: what LiveCells and SameFrom answer. No program is named here.
-/
import Derived.Test.YtjpjikfmdaejeabCopyO
import Derived.Test.YtjpjikfmdaejeabSameT
namespace Go.Proofs.Ytjpjikfmdaejeab
set_option linter.unusedVariables false
set_option linter.unusedSimpArgs false

def liveL (g : List Ce) (o : List Nat) : Nat := o.countP fun a => opAt g a != 11
/-- what LiveCells answers, but for whether -/
def liveO (g : List Ce) (rs : List Int) : Int := if rootB g rs = true then (liveL g (orderG g (natL rs)) : Int) else 0
theorem liveO_no {g : List Ce} {rs : List Int} (h : rootB g rs = false) : liveO g rs = 0 := by unfold liveO; rw [if_neg (by rw [h]; simp)]
theorem liveO_yes {g : List Ce} {rs : List Int} (h : rootB g rs = true) : liveO g rs = (liveL g (orderG g (natL rs)) : Int) := by unfold liveO; rw [if_pos h]
theorem liveL_snoc (g : List Ce) (o : List Nat) (a : Nat) : liveL g (o ++ [a]) = liveL g o + (if opAt g a != 11 then 1 else 0) := by
  unfold liveL; rw [List.countP_append, List.countP_singleton]
theorem liveL_le (g : List Ce) (o : List Nat) : liveL g o ≤ o.length := List.countP_le_length
def liveC (G : List Ce) : Nat := G.countP fun c => c.op != 11
theorem liveC_snoc (G : List Ce) (c : Ce) : liveC (G ++ [c]) = liveC G + (if c.op != 11 then 1 else 0) := by
  unfold liveC; rw [List.countP_append, List.countP_singleton]
theorem liveC_le (G : List Ce) : liveC G ≤ G.length := List.countP_le_length
theorem liveC_copy (g : List Ce) (rs : List Nat) : liveC (copyG g rs) = liveL g (orderG g rs) := by
  unfold liveC liveL copyG; rw [List.countP_map]; rfl
theorem take_snocC {α : Type} {l : List α} {k : Nat} (h : k < l.length) : l.take (k + 1) = l.take k ++ [l[k]] := List.take_succ_eq_append_getElem h

/-! ### Shapes -/
theorem root_one (g : List Ce) (x : Int) : rootB g [x] = (graphB g 6 && isAt g.length x) := by unfold rootB; simp
theorem nat_one (x : Int) : natL [x] = [x.toNat] := rfl
/-- what SameFrom answers -/
def sameO (a : List Ce) (x : Int) (b : List Ce) (y : Int) : Bool := rootB a [x] && (rootB b [y] && sameG (copyG a (natL [x])) (copyG b (natL [y])))
theorem sameO_no1 {a b : List Ce} {x y : Int} (h : rootB a [x] = false) : sameO a x b y = false := by unfold sameO; rw [h]; rfl
theorem sameO_no2 {a b : List Ce} {x y : Int} (h : rootB b [y] = false) : sameO a x b y = false := by unfold sameO; rw [h]; simp
theorem sameO_yes {a b : List Ce} {x y : Int} (h : rootB a [x] = true) (h' : rootB b [y] = true) : sameO a x b y = sameG (copyG a (natL [x])) (copyG b (natL [y])) := by unfold sameO; rw [h, h']; rfl
end Go.Proofs.Ytjpjikfmdaejeab

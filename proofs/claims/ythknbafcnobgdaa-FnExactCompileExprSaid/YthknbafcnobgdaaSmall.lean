/-
  THE MODEL's l1Small: has the result of a replacement not too many nodes?
-/
import Derived.Test.YthknbafcnobgdaaSpecVars
import Derived.Test.YthknbafcnobgdaaSpecValid
import Derived.Test.YthknbafcnobgdaaSubT
import Derived.IntWalk
namespace Go.Proofs.Ythknbafcnobgdaa
set_option linter.unusedVariables false
set_option linter.unusedSimpArgs false
open Go.RowKit

theorem valid_is (t : Tr) (vars defs : Int) (h : 0 ≤ vars ∧ vars ≤ 4 ∧ 0 ≤ defs ∧ defs ≤ 6) : validB t vars defs = isB t vars defs := by
  unfold validB isB
  rw [decide_eq_true h, Bool.true_and]
  congr 1
  exact decide_eq_decide.2 (by omega)
theorem valid_big (t : Tr) (vars defs : Int) (h : 4 < vars) : validB t vars defs = false := by
  unfold validB
  rw [decide_eq_false (by omega), Bool.false_and]
theorem valid_sz {t : Tr} {vars defs : Int} (h : validB t vars defs = true) : 1 + szT t ≤ 60 := by
  unfold validB at h
  simp only [Bool.and_eq_true, decide_eq_true_eq] at h
  exact h.2.2

theorem isV_isVar : isV = isVar := rfl
/-- what the first arguments add -/
def gainK (args : List Tr) (u : Nat → Nat) (k : Nat) : Nat := ((List.range k).map fun i => u i * szT (args.getD i default)).sum
theorem gainK_zero (args : List Tr) (u : Nat → Nat) : gainK args u 0 = 0 := rfl
theorem gainK_succ (args : List Tr) (u : Nat → Nat) (k : Nat) (h : k < args.length) : gainK args u (k + 1) = gainK args u k + u k * szT args[k] := by
  unfold gainK
  rw [List.range_succ, List.map_append, List.sum_append]
  simp [h]
theorem gainK_le (args : List Tr) (u : Nat → Nat) (hu : ∀ i, u i ≤ 60) (hs : ∀ i (h : i < args.length), szT args[i] ≤ 60) : ∀ k, k ≤ args.length → gainK args u k ≤ 3600 * k
  | 0, _ => by simp [gainK_zero]
  | k + 1, h => by
    have := gainK_le args u hu hs k (by omega)
    rw [gainK_succ args u k (by omega)]
    have h1 : u k * szT args[k] ≤ 60 * 60 := Nat.mul_le_mul (hu k) (hs k (by omega))
    omega

end Go.Proofs.Ythknbafcnobgdaa

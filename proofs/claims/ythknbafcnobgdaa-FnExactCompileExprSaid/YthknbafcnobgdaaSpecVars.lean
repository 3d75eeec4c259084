/-
  THE MODEL's l1Uses and VarsUsed: how often each variable stands in a tree.
-/
import Derived.Test.YthknbafcnobgdaaMark
import Derived.Test.YthknbafcnobgdaaProg
import Derived.Deep.QuietTactic
import Derived.BigQuiet
import Derived.WalkSmall
import Derived.Test.YthknbafcnobgdaaTally
import Derived.Test.YthknbafcnobgdaaRow3
import Derived.Test.YthknbafcnobgdaaMakeI
import Derived.Deep.RegionWith
namespace Go.Proofs.Ythknbafcnobgdaa
set_option linter.unusedVariables false
set_option linter.unusedSimpArgs false
open Go.RowKit

/-- is a node the variable i? -/
def isV (i : Nat) (t : Tr) : Bool := t.op == 1 && t.num == (i : Int)
def varsOf (n : Nat) (t : Tr) : List Int := (List.range n).map fun i => (cntT (isV i) t : Int)
theorem varsOf_length (n : Nat) (t : Tr) : (varsOf n t).length = n := by simp [varsOf]
theorem varsOf_get (n : Nat) (t : Tr) (i : Nat) (h : i < (varsOf n t).length) : (varsOf n t)[i] = (cntT (isV i) t : Int) := by simp [varsOf]

theorem KidsOn.but {w w' : World} {S : Nat → Prop} {g : Nat} {ks : List Tr} {c : Value} (h : KidsOn w S ks c) (hS : ∀ k, S k → k ≠ g ∧ k < w.heap.size) (hb : ButL [g] w w') : KidsOn w' S ks c :=
  h.mono (fun _ hk => hk) fun k hk => hb.block k (hS k hk).2 (by simpa using (hS k hk).1)

/-- a tree's blocks lie below lo, but for one -/
def Off (g lo : Nat) : Nat → Prop := fun k => k ≠ g ∧ k < lo

end Go.Proofs.Ythknbafcnobgdaa

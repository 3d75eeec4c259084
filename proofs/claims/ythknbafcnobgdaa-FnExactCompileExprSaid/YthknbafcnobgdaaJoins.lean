/-
  WHAT foldExpr JOINS BY: withKids (so: copyExpr) and the closure of SubstExpr.
-/
import Derived.Test.YthknbafcnobgdaaFoldCopy
import Derived.Test.YthknbafcnobgdaaFoldSub
namespace Go.Proofs.Ythknbafcnobgdaa
set_option linter.unusedVariables false
set_option linter.unusedSimpArgs false
open Go.RowKit

theorem fresh_form {w : World} {lo : Nat} {ks : List Tr} {v : Value} (h : Fresh w lo ks v) : ∃ ad cap, v = .slice ad ks.length cap := by
  obtain ⟨fp, ⟨ad, cap, rfl, -⟩, -⟩ := h
  exact ⟨ad, cap, rfl⟩

end Go.Proofs.Ythknbafcnobgdaa

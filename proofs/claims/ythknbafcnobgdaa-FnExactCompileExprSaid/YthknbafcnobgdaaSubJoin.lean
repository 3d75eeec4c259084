/-
  THE CLOSURE OF SubstExpr: a variable becomes a copy of its argument, another node keeps its operands' trees.
-/
import Derived.Test.YthknbafcnobgdaaJoins
namespace Go.Proofs.Ythknbafcnobgdaa
set_option linter.unusedVariables false
set_option linter.unusedSimpArgs false
open Go.RowKit

end Go.Proofs.Ythknbafcnobgdaa

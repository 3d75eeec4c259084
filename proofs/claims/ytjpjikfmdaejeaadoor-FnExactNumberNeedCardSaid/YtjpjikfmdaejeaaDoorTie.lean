/-
  DERIVED. GIVEN WITH THE SEED: THE PROGRAM's TIES (one call each: nine closed facts by the kernel) AND EACH ROW's TIE, after the 31st guide's Derived/Test/Toyas{Tie, Card}.lean. No idea stands in it: it is a product of the set-up. Laid BY PROGRAM, IN A SANDBOX (cutbox-door.mjs). By AI agents, Wed Nov 11 2026. No macro, syntax, notation, axiom, sorry.
-/
import Derived.Test.YtjpjikfmdaejeaaDoorRows
import Derived.LaidByTextLater
import Derived.SevenTiedAt
import Derived.LaidSub
import Derived.LaidOnce
namespace Go.Proofs.YtjpjikfmdaejeaaDoor
open Go
set_option maxRecDepth 100000
theorem seatTie1 : Tryd.prog.laidByTextLater [("loop.example/graphreducer/impl.errFuel", Rows.laid_loop_example_graphreducer_impl_errFuel), ("loop.example/graphreducer/impl.errStuck", Rows.laid_loop_example_graphreducer_impl_errStuck), ("loop.example/graphreducer/impl.errLarge", Rows.laid_loop_example_graphreducer_impl_errLarge), ("loop.example/graphreducer/impl.errInvalid", Rows.laid_loop_example_graphreducer_impl_errInvalid)] [.sentinel, .sentinel, .sentinel, .sentinel] true :=
  Program.laidByTextLater_by_one 85 8 2 (by kernel_rfl) (by kernel_rfl) (by kernel_rfl) (by kernel_rfl) (by kernel_rfl) (by kernel_rfl) (fun _ _ => by kernel_rfl)
theorem noOwnUnsafe : Tryd.pinned.checked.prog.headLifts.contains "ownunsafe" = false := by kernel_rfl
theorem tie : Tryd.prog.laidByTextLater [("loop.example/graphreducer/impl.errFuel", Rows.laid_loop_example_graphreducer_impl_errFuel), ("loop.example/graphreducer/impl.errStuck", Rows.laid_loop_example_graphreducer_impl_errStuck), ("loop.example/graphreducer/impl.errLarge", Rows.laid_loop_example_graphreducer_impl_errLarge), ("loop.example/graphreducer/impl.errInvalid", Rows.laid_loop_example_graphreducer_impl_errInvalid)] [.sentinel, .sentinel, .sentinel, .sentinel] true :=
  Program.laidByTextLater.sub seatTie1 ["loop.example/graphreducer/impl.errFuel", "loop.example/graphreducer/impl.errStuck", "loop.example/graphreducer/impl.errLarge", "loop.example/graphreducer/impl.errInvalid"] (by kernel_rfl) (by kernel_rfl)
theorem fnExactNumberNeed_row_tie : Rows.fnExactNumberNeedRow.laidByTextAt .later Tryd.pinned [.sentinel, .sentinel, .sentinel, .sentinel] true :=
  OpenClaim.laidByTextAt_later rfl rfl tie noOwnUnsafe
theorem fnExactEvalName_row_tie : Rows.fnExactEvalNameRow.laidByTextAt .later Tryd.pinned [.sentinel, .sentinel, .sentinel, .sentinel] true :=
  OpenClaim.laidByTextAt_later rfl rfl tie noOwnUnsafe
theorem fnExactNumberName_row_tie : Rows.fnExactNumberNameRow.laidByTextAt .later Tryd.pinned [.sentinel, .sentinel, .sentinel, .sentinel] true :=
  OpenClaim.laidByTextAt_later rfl rfl tie noOwnUnsafe
theorem fnExactTraceName_row_tie : Rows.fnExactTraceNameRow.laidByTextAt .later Tryd.pinned [.sentinel, .sentinel, .sentinel, .sentinel] true :=
  OpenClaim.laidByTextAt_later rfl rfl tie noOwnUnsafe
theorem tie2 : Tryd.prog.laidByTextLater [("loop.example/graphreducer/impl.errFuel", Rows.laid_loop_example_graphreducer_impl_errFuel), ("loop.example/graphreducer/impl.errStuck", Rows.laid_loop_example_graphreducer_impl_errStuck), ("loop.example/graphreducer/impl.errLarge", Rows.laid_loop_example_graphreducer_impl_errLarge)] [.sentinel, .sentinel, .sentinel] true :=
  Program.laidByTextLater.sub seatTie1 ["loop.example/graphreducer/impl.errFuel", "loop.example/graphreducer/impl.errStuck", "loop.example/graphreducer/impl.errLarge"] (by kernel_rfl) (by kernel_rfl)
theorem fnExactStepName_row_tie : Rows.fnExactStepNameRow.laidByTextAt .later Tryd.pinned [.sentinel, .sentinel, .sentinel] true :=
  OpenClaim.laidByTextAt_later rfl rfl tie2 noOwnUnsafe
theorem fnExactNumberNeedUpto_row_tie : Rows.fnExactNumberNeedUptoRow.laidByTextAt .later Tryd.pinned [.sentinel, .sentinel, .sentinel, .sentinel] true :=
  OpenClaim.laidByTextAt_later rfl rfl tie noOwnUnsafe
theorem fnExactStepNameUpto_row_tie : Rows.fnExactStepNameUptoRow.laidByTextAt .later Tryd.pinned [.sentinel, .sentinel, .sentinel] true :=
  OpenClaim.laidByTextAt_later rfl rfl tie2 noOwnUnsafe
theorem fnExactEvalNameUpto_row_tie : Rows.fnExactEvalNameUptoRow.laidByTextAt .later Tryd.pinned [.sentinel, .sentinel, .sentinel, .sentinel] true :=
  OpenClaim.laidByTextAt_later rfl rfl tie noOwnUnsafe
theorem fnExactNumberNameUpto_row_tie : Rows.fnExactNumberNameUptoRow.laidByTextAt .later Tryd.pinned [.sentinel, .sentinel, .sentinel, .sentinel] true :=
  OpenClaim.laidByTextAt_later rfl rfl tie noOwnUnsafe
theorem fnExactTraceNameUpto_row_tie : Rows.fnExactTraceNameUptoRow.laidByTextAt .later Tryd.pinned [.sentinel, .sentinel, .sentinel, .sentinel] true :=
  OpenClaim.laidByTextAt_later rfl rfl tie noOwnUnsafe
end Go.Proofs.YtjpjikfmdaejeaaDoor

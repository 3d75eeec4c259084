/-
  DERIVED. GIVEN WITH THE SEED: THE PROGRAM's TIES (one call each: nine closed facts by the kernel) AND EACH ROW's TIE, after the 31st guide's Derived/Test/Toyas{Tie, Card}.lean. No idea stands in it: it is a product of the set-up. Laid BY PROGRAM, IN A SANDBOX (cutbox-door.mjs). By AI agents, Wed Nov 11 2026. No macro, syntax, notation, axiom, sorry.
-/
import Derived.Test.YtiipcgnkfhjpeaaGreatDoorRows
import Derived.LaidByTextLater
import Derived.SevenTiedAt
import Derived.LaidSub
import Derived.LaidOnce
namespace Go.Proofs.YtiipcgnkfhjpeaaGreatDoor
open Go
set_option maxRecDepth 100000
theorem seatTie1 : Tryz.prog.laidByTextLater [("loop.example/graphreducer/impl.errFuel", Rows.laid_loop_example_graphreducer_impl_errFuel), ("loop.example/graphreducer/impl.errStuck", Rows.laid_loop_example_graphreducer_impl_errStuck), ("loop.example/graphreducer/impl.errLarge", Rows.laid_loop_example_graphreducer_impl_errLarge)] [.sentinel, .sentinel, .sentinel] true :=
  Program.laidByTextLater_by_one 66 8 2 (by kernel_rfl) (by kernel_rfl) (by kernel_rfl) (by kernel_rfl) (by kernel_rfl) (by kernel_rfl) (fun _ _ => by kernel_rfl)
theorem noOwnUnsafe : Tryz.pinned.checked.prog.headLifts.contains "ownunsafe" = false := by kernel_rfl
theorem tie : Tryz.prog.laidByTextLater [("loop.example/graphreducer/impl.errFuel", Rows.laid_loop_example_graphreducer_impl_errFuel), ("loop.example/graphreducer/impl.errStuck", Rows.laid_loop_example_graphreducer_impl_errStuck), ("loop.example/graphreducer/impl.errLarge", Rows.laid_loop_example_graphreducer_impl_errLarge)] [.sentinel, .sentinel, .sentinel] true :=
  Program.laidByTextLater.sub seatTie1 ["loop.example/graphreducer/impl.errFuel", "loop.example/graphreducer/impl.errStuck", "loop.example/graphreducer/impl.errLarge"] (by kernel_rfl) (by kernel_rfl)
theorem fnExactStepRun_row_tie : Rows.fnExactStepRunRow.laidByTextAt .later Tryz.pinned [.sentinel, .sentinel, .sentinel] true :=
  OpenClaim.laidByTextAt_later rfl rfl tie noOwnUnsafe
theorem fnExactEvalRun_row_tie : Rows.fnExactEvalRunRow.laidByTextAt .later Tryz.pinned [.sentinel, .sentinel, .sentinel] true :=
  OpenClaim.laidByTextAt_later rfl rfl tie noOwnUnsafe
theorem fnExactStepRunUpto_row_tie : Rows.fnExactStepRunUptoRow.laidByTextAt .later Tryz.pinned [.sentinel, .sentinel, .sentinel] true :=
  OpenClaim.laidByTextAt_later rfl rfl tie noOwnUnsafe
theorem fnExactEvalRunUpto_row_tie : Rows.fnExactEvalRunUptoRow.laidByTextAt .later Tryz.pinned [.sentinel, .sentinel, .sentinel] true :=
  OpenClaim.laidByTextAt_later rfl rfl tie noOwnUnsafe
end Go.Proofs.YtiipcgnkfhjpeaaGreatDoor

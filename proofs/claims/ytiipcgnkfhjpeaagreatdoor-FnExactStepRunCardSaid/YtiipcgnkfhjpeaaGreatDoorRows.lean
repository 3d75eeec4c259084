/-
  NARROWER THAN 'FOR EVERY INPUT', by the rows' own cells (each row's printed sentence says how): FnExactStepRun: loops, ifaces, laid · FnExactEvalRun: loops, ifaces, laid.
  DERIVED. THE GIVEN ROWS OF THIS SEAT. 2 by the template 'for every input the law returns true; each argument reads behind the call as it read before'; 0 by the template 'total and deterministic' (their statements: YtiipcgnkfhjpeaaGreatDoorTotals.lean).
  GIVEN WITH THE SEED: the statements are not yours to turn. If you find one false, say at which input.
  Laid BY PROGRAM, IN A SANDBOX (cutbox-rows.mjs): the forced cells as the released guide's own fill.sh prints them over the translation c6aeab003c300907… (all of the seat's roots in one cut). By AI agents, Wed Nov 11 2026. No macro, syntax, notation, axiom, sorry.
-/
import Derived.Test.YtiipcgnkfhjpeaaGreatDoorChecked
import GoSem.Claim
import GoSem.ClaimJoined
import GoSem.ClaimMapViews
import Derived.JoinedTies
import Derived.KernelRfl
namespace Go.Proofs.YtiipcgnkfhjpeaaGreatDoor
/- THE CELL 'sum', in the pinned program and in every row, IS THE sha256 OF THE DUMP (.gsa) THAT YtiipcgnkfhjpeaaGreatDoorProg.lean LOADS. Nothing in Lean hashes anything: it is a label: what it is worth is what the hold of that sum in a sandbox is worth. -/
noncomputable def Tryz.pinned : Pinned := { name := "ytiipcgnkfhjpeaagreatdoor", sum := "c6aeab003c30090724b2671e0924824913763bedd133f7c92938f7dda3c102ed", checked := Tryz.checked }
namespace Rows
def none {H : Type} : Left H := { results := [], args := [] }

/- WHAT THE LISTED PACKAGE-LEVEL VARIABLES READ AS WHEN THE CALL BEGINS. Each datum BY PROGRAM (the guide's laid-datum.mjs) off the statement by which the dump's own 'gosem.cut.vars' lays the variable. In a bare row this is a premise. The card (YtiipcgnkfhjpeaaGreatDoorCards.lean) ties it to the program's text. -/
def laid_loop_example_graphreducer_impl_errFuel {H : Type} : DataW H := .iface "*errors.errorString" (.ptr (.agg [.lit (.string [110, 111, 32, 102, 117, 101, 108, 32, 105, 115, 32, 108, 101, 102, 116])]))
def laid_loop_example_graphreducer_impl_errStuck {H : Type} : DataW H := .iface "*errors.errorString" (.ptr (.agg [.lit (.string [116, 104, 101, 114, 101, 32, 105, 115, 32, 110, 111, 32, 115, 116, 101, 112])]))
def laid_loop_example_graphreducer_impl_errLarge {H : Type} : DataW H := .iface "*errors.errorString" (.ptr (.agg [.lit (.string [116, 104, 101, 32, 114, 101, 115, 117, 108, 116, 32, 105, 115, 32, 116, 111, 111, 32, 108, 97, 114, 103, 101])]))

/-- 'laws.FnExactStepRun': WHATEVER THE INPUT: true; the input reads as it did. -/
def fnExactStepRunSpec : ChangeSpec := { name := "fnExactStepRun", vars := ["loop.example/graphreducer/impl.errLarge", "loop.example/graphreducer/impl.errFuel", "loop.example/graphreducer/impl.errStuck"], fn := fun _ => fun
  | [d1, d2, d3, d4, g1, g2, g3] => { results := [.lit (.bool true)], args := [d1, d2, d3, d4], vars := [g1, g2, g3] }
  | _ => none }
def fnExactStepRunRow : OpenClaim := { program := "ytiipcgnkfhjpeaagreatdoor", sum := "c6aeab003c30090724b2671e0924824913763bedd133f7c92938f7dda3c102ed", func := "loop.example/graphreducer/laws.FnExactStepRun", spec := "fnExactStepRun", inPlace := ["internal/reflectlite.TypeOf"], unfollowed := true, recurses := true, named := ["loop.example/graphreducer/impl.errLarge", "loop.example/graphreducer/impl.errFuel", "loop.example/graphreducer/impl.errStuck"], ifaces := true, loops := true, apart := false, laid := [("loop.example/graphreducer/impl.errFuel", laid_loop_example_graphreducer_impl_errFuel), ("loop.example/graphreducer/impl.errStuck", laid_loop_example_graphreducer_impl_errStuck), ("loop.example/graphreducer/impl.errLarge", laid_loop_example_graphreducer_impl_errLarge)] }
def FnExactStepRunSaid : Prop := fnExactStepRunRow.holds Tryz.pinned (OpenSpec.ofChange fnExactStepRunSpec)

/-- ITS FALSE NEIGHBOUR: 'it returns false'. Refute it at one input. -/
def fnExactStepRunWrong : ChangeSpec := { name := "fnExactStepRun", vars := ["loop.example/graphreducer/impl.errLarge", "loop.example/graphreducer/impl.errFuel", "loop.example/graphreducer/impl.errStuck"], fn := fun _ => fun
  | [d1, d2, d3, d4, g1, g2, g3] => { results := [.lit (.bool false)], args := [d1, d2, d3, d4], vars := [g1, g2, g3] }
  | _ => none }
def FnExactStepRunWrongFalsely : Prop := fnExactStepRunRow.holds Tryz.pinned (OpenSpec.ofChange fnExactStepRunWrong)

/-- 'laws.FnExactEvalRun': WHATEVER THE INPUT: true; the input reads as it did. -/
def fnExactEvalRunSpec : ChangeSpec := { name := "fnExactEvalRun", vars := ["loop.example/graphreducer/impl.errFuel", "loop.example/graphreducer/impl.errLarge", "loop.example/graphreducer/impl.errStuck"], fn := fun _ => fun
  | [d1, d2, d3, d4, d5, g1, g2, g3] => { results := [.lit (.bool true)], args := [d1, d2, d3, d4, d5], vars := [g1, g2, g3] }
  | _ => none }
def fnExactEvalRunRow : OpenClaim := { program := "ytiipcgnkfhjpeaagreatdoor", sum := "c6aeab003c30090724b2671e0924824913763bedd133f7c92938f7dda3c102ed", func := "loop.example/graphreducer/laws.FnExactEvalRun", spec := "fnExactEvalRun", inPlace := ["internal/reflectlite.TypeOf"], unfollowed := true, recurses := true, named := ["loop.example/graphreducer/impl.errFuel", "loop.example/graphreducer/impl.errLarge", "loop.example/graphreducer/impl.errStuck"], ifaces := true, loops := true, apart := false, laid := [("loop.example/graphreducer/impl.errFuel", laid_loop_example_graphreducer_impl_errFuel), ("loop.example/graphreducer/impl.errStuck", laid_loop_example_graphreducer_impl_errStuck), ("loop.example/graphreducer/impl.errLarge", laid_loop_example_graphreducer_impl_errLarge)] }
def FnExactEvalRunSaid : Prop := fnExactEvalRunRow.holds Tryz.pinned (OpenSpec.ofChange fnExactEvalRunSpec)

/-- ITS FALSE NEIGHBOUR: 'it returns false'. Refute it at one input. -/
def fnExactEvalRunWrong : ChangeSpec := { name := "fnExactEvalRun", vars := ["loop.example/graphreducer/impl.errFuel", "loop.example/graphreducer/impl.errLarge", "loop.example/graphreducer/impl.errStuck"], fn := fun _ => fun
  | [d1, d2, d3, d4, d5, g1, g2, g3] => { results := [.lit (.bool false)], args := [d1, d2, d3, d4, d5], vars := [g1, g2, g3] }
  | _ => none }
def FnExactEvalRunWrongFalsely : Prop := fnExactEvalRunRow.holds Tryz.pinned (OpenSpec.ofChange fnExactEvalRunWrong)

/- THE SECOND FORM. 'bulk': how many values and letters a reading holds, each counted each time it is reached (what is shared counts as often as it is met; a slice's spare places count too). A statement '..UptoSaid' is the law's where the arguments, and the package variables that the reading takes, are together of bulk at most 1048576: NARROWER than '..Said'. Prove '..Said' where nothing that the law and all that it calls make is longer than what came in: it says more and counts as full. Else prove '..UptoSaid'. A law counts once. -/
mutual
def uptoBulk {H : Type} : DataW H → Nat
  | .lit (.string bytes) => bytes.length + 1
  | .lit _ => 1
  | .nil => 1
  | .ptr d => uptoBulk d + 1
  | .slice elems spare => uptoBulkAll elems + uptoBulkAll spare + 1
  | .agg parts => uptoBulkAll parts + 1
  | .iface _ d => uptoBulk d + 1
  | .map entries => uptoBulkEntries entries + 1
  | .held _ => 1
def uptoBulkAll {H : Type} : List (DataW H) → Nat
  | [] => 0
  | d :: r => uptoBulk d + uptoBulkAll r
def uptoBulkEntries {H : Type} : List (Lit × DataW H) → Nat
  | [] => 0
  | x :: r => uptoBulkEntry x + uptoBulkEntries r
def uptoBulkEntry {H : Type} : Lit × DataW H → Nat
  | (.string bytes, d) => bytes.length + uptoBulk d + 1
  | (_, d) => uptoBulk d + 1
 end
def uptoSmall : (H : Type) → List (DataW H) → Bool := fun _ ds => decide (uptoBulkAll ds ≤ 1048576)
def OpenSpec.upto (s : _root_.Go.ChangeSpec) : _root_.Go.OpenSpec := { _root_.Go.OpenSpec.ofChange s with cond := some uptoSmall }

/-- 'laws.FnExactStepRun', WHERE WHAT IT READS IS OF BULK AT MOST 1048576: true; the input reads as it did. -/
def fnExactStepRunUptoRow : OpenClaim := { program := "ytiipcgnkfhjpeaagreatdoor", sum := "c6aeab003c30090724b2671e0924824913763bedd133f7c92938f7dda3c102ed", func := "loop.example/graphreducer/laws.FnExactStepRun", spec := "fnExactStepRun", inPlace := ["internal/reflectlite.TypeOf"], unfollowed := true, recurses := true, named := ["loop.example/graphreducer/impl.errLarge", "loop.example/graphreducer/impl.errFuel", "loop.example/graphreducer/impl.errStuck"], ifaces := true, loops := true, apart := false, laid := [("loop.example/graphreducer/impl.errFuel", laid_loop_example_graphreducer_impl_errFuel), ("loop.example/graphreducer/impl.errStuck", laid_loop_example_graphreducer_impl_errStuck), ("loop.example/graphreducer/impl.errLarge", laid_loop_example_graphreducer_impl_errLarge)], narrowed := true }
def FnExactStepRunUptoSaid : Prop := fnExactStepRunUptoRow.holds Tryz.pinned (OpenSpec.upto fnExactStepRunSpec)

/-- 'laws.FnExactEvalRun', WHERE WHAT IT READS IS OF BULK AT MOST 1048576: true; the input reads as it did. -/
def fnExactEvalRunUptoRow : OpenClaim := { program := "ytiipcgnkfhjpeaagreatdoor", sum := "c6aeab003c30090724b2671e0924824913763bedd133f7c92938f7dda3c102ed", func := "loop.example/graphreducer/laws.FnExactEvalRun", spec := "fnExactEvalRun", inPlace := ["internal/reflectlite.TypeOf"], unfollowed := true, recurses := true, named := ["loop.example/graphreducer/impl.errFuel", "loop.example/graphreducer/impl.errLarge", "loop.example/graphreducer/impl.errStuck"], ifaces := true, loops := true, apart := false, laid := [("loop.example/graphreducer/impl.errFuel", laid_loop_example_graphreducer_impl_errFuel), ("loop.example/graphreducer/impl.errStuck", laid_loop_example_graphreducer_impl_errStuck), ("loop.example/graphreducer/impl.errLarge", laid_loop_example_graphreducer_impl_errLarge)], narrowed := true }
def FnExactEvalRunUptoSaid : Prop := fnExactEvalRunUptoRow.holds Tryz.pinned (OpenSpec.upto fnExactEvalRunSpec)

end Rows
end Go.Proofs.YtiipcgnkfhjpeaaGreatDoor

/-
  NARROWER THAN 'FOR EVERY INPUT', by the rows' own cells (each row's printed sentence says how): FnExactStepGraph: loops, ifaces, laid · FnExactEvalGraph: loops, ifaces, laid.
  DERIVED. THE GIVEN ROWS OF THIS SEAT. 2 by the template 'for every input the law returns true; each argument reads behind the call as it read before'; 0 by the template 'total and deterministic' (their statements: YtjpjikfmdaejeaaGreatDoorTotals.lean).
  GIVEN WITH THE SEED: the statements are not yours to turn. If you find one false, say at which input.
  Laid BY PROGRAM, IN A SANDBOX (cutbox-rows.mjs): the forced cells as the released guide's own fill.sh prints them over the translation 9017a5ca83f7ab19… (all of the seat's roots in one cut). By AI agents, Wed Nov 11 2026. No macro, syntax, notation, axiom, sorry.
-/
import Derived.Test.YtjpjikfmdaejeaaGreatDoorChecked
import GoSem.Claim
import GoSem.ClaimJoined
import GoSem.ClaimMapViews
import Derived.JoinedTies
import Derived.KernelRfl
namespace Go.Proofs.YtjpjikfmdaejeaaGreatDoor
/- THE CELL 'sum', in the pinned program and in every row, IS THE sha256 OF THE DUMP (.gsa) THAT YtjpjikfmdaejeaaGreatDoorProg.lean LOADS. Nothing in Lean hashes anything: it is a label: what it is worth is what the hold of that sum in a sandbox is worth. -/
noncomputable def Tryz.pinned : Pinned := { name := "ytjpjikfmdaejeaagreatdoor", sum := "9017a5ca83f7ab196ed9d5632b803fd354e28c92e7c33ac2701cf1313c7cca0f", checked := Tryz.checked }
namespace Rows
def none {H : Type} : Left H := { results := [], args := [] }

/- WHAT THE LISTED PACKAGE-LEVEL VARIABLES READ AS WHEN THE CALL BEGINS. Each datum BY PROGRAM (the guide's laid-datum.mjs) off the statement by which the dump's own 'gosem.cut.vars' lays the variable. In a bare row this is a premise. The card (YtjpjikfmdaejeaaGreatDoorCards.lean) ties it to the program's text. -/
def laid_loop_example_graphreducer_impl_errFuel {H : Type} : DataW H := .iface "*errors.errorString" (.ptr (.agg [.lit (.string [110, 111, 32, 102, 117, 101, 108, 32, 105, 115, 32, 108, 101, 102, 116])]))
def laid_loop_example_graphreducer_impl_errStuck {H : Type} : DataW H := .iface "*errors.errorString" (.ptr (.agg [.lit (.string [116, 104, 101, 114, 101, 32, 105, 115, 32, 110, 111, 32, 115, 116, 101, 112])]))
def laid_loop_example_graphreducer_impl_errLarge {H : Type} : DataW H := .iface "*errors.errorString" (.ptr (.agg [.lit (.string [116, 104, 101, 32, 114, 101, 115, 117, 108, 116, 32, 105, 115, 32, 116, 111, 111, 32, 108, 97, 114, 103, 101])]))

/-- 'laws.FnExactStepGraph': WHATEVER THE INPUT: true; the input reads as it did. -/
def fnExactStepGraphSpec : ChangeSpec := { name := "fnExactStepGraph", vars := ["loop.example/graphreducer/impl.errStuck", "loop.example/graphreducer/impl.errLarge", "loop.example/graphreducer/impl.errFuel"], fn := fun _ => fun
  | [d1, d2, d3, g1, g2, g3] => { results := [.lit (.bool true)], args := [d1, d2, d3], vars := [g1, g2, g3] }
  | _ => none }
def fnExactStepGraphRow : OpenClaim := { program := "ytjpjikfmdaejeaagreatdoor", sum := "9017a5ca83f7ab196ed9d5632b803fd354e28c92e7c33ac2701cf1313c7cca0f", func := "loop.example/graphreducer/laws.FnExactStepGraph", spec := "fnExactStepGraph", inPlace := ["internal/reflectlite.TypeOf"], unfollowed := true, recurses := true, named := ["loop.example/graphreducer/impl.errStuck", "loop.example/graphreducer/impl.errLarge", "loop.example/graphreducer/impl.errFuel"], ifaces := true, loops := true, apart := false, laid := [("loop.example/graphreducer/impl.errFuel", laid_loop_example_graphreducer_impl_errFuel), ("loop.example/graphreducer/impl.errStuck", laid_loop_example_graphreducer_impl_errStuck), ("loop.example/graphreducer/impl.errLarge", laid_loop_example_graphreducer_impl_errLarge)] }
def FnExactStepGraphSaid : Prop := fnExactStepGraphRow.holds Tryz.pinned (OpenSpec.ofChange fnExactStepGraphSpec)

/-- ITS FALSE NEIGHBOUR: 'it returns false'. Refute it at one input. -/
def fnExactStepGraphWrong : ChangeSpec := { name := "fnExactStepGraph", vars := ["loop.example/graphreducer/impl.errStuck", "loop.example/graphreducer/impl.errLarge", "loop.example/graphreducer/impl.errFuel"], fn := fun _ => fun
  | [d1, d2, d3, g1, g2, g3] => { results := [.lit (.bool false)], args := [d1, d2, d3], vars := [g1, g2, g3] }
  | _ => none }
def FnExactStepGraphWrongFalsely : Prop := fnExactStepGraphRow.holds Tryz.pinned (OpenSpec.ofChange fnExactStepGraphWrong)

/-- 'laws.FnExactEvalGraph': WHATEVER THE INPUT: true; the input reads as it did. -/
def fnExactEvalGraphSpec : ChangeSpec := { name := "fnExactEvalGraph", vars := ["loop.example/graphreducer/impl.errFuel", "loop.example/graphreducer/impl.errStuck", "loop.example/graphreducer/impl.errLarge"], fn := fun _ => fun
  | [d1, d2, d3, d4, g1, g2, g3] => { results := [.lit (.bool true)], args := [d1, d2, d3, d4], vars := [g1, g2, g3] }
  | _ => none }
def fnExactEvalGraphRow : OpenClaim := { program := "ytjpjikfmdaejeaagreatdoor", sum := "9017a5ca83f7ab196ed9d5632b803fd354e28c92e7c33ac2701cf1313c7cca0f", func := "loop.example/graphreducer/laws.FnExactEvalGraph", spec := "fnExactEvalGraph", inPlace := ["internal/reflectlite.TypeOf"], unfollowed := true, recurses := true, named := ["loop.example/graphreducer/impl.errFuel", "loop.example/graphreducer/impl.errStuck", "loop.example/graphreducer/impl.errLarge"], ifaces := true, loops := true, apart := false, laid := [("loop.example/graphreducer/impl.errFuel", laid_loop_example_graphreducer_impl_errFuel), ("loop.example/graphreducer/impl.errStuck", laid_loop_example_graphreducer_impl_errStuck), ("loop.example/graphreducer/impl.errLarge", laid_loop_example_graphreducer_impl_errLarge)] }
def FnExactEvalGraphSaid : Prop := fnExactEvalGraphRow.holds Tryz.pinned (OpenSpec.ofChange fnExactEvalGraphSpec)

/-- ITS FALSE NEIGHBOUR: 'it returns false'. Refute it at one input. -/
def fnExactEvalGraphWrong : ChangeSpec := { name := "fnExactEvalGraph", vars := ["loop.example/graphreducer/impl.errFuel", "loop.example/graphreducer/impl.errStuck", "loop.example/graphreducer/impl.errLarge"], fn := fun _ => fun
  | [d1, d2, d3, d4, g1, g2, g3] => { results := [.lit (.bool false)], args := [d1, d2, d3, d4], vars := [g1, g2, g3] }
  | _ => none }
def FnExactEvalGraphWrongFalsely : Prop := fnExactEvalGraphRow.holds Tryz.pinned (OpenSpec.ofChange fnExactEvalGraphWrong)

/- THE SECOND FORM. 'bulk': how many values and letters a reading holds, each counted each time it is reached (what is shared counts as often as it is met; a slice's spare places count too). A statement '..UptoSaid' is the law's where the arguments, and the package variables that the reading takes, are together of bulk at most 1048576: NARROWER than '..Said'. Prove '..Said' where nothing that the law and all that it calls make is longer than what came in: it says more and counts as full. Else prove '..UptoSaid'. A law counts once. -/
mutual
def uptoBulk {H : Type} : DataW H → Nat
  | .lit (.string bytes) => bytes.length + 1
  | .lit _ => 1
  | .nil => 1
  | .ptr d => uptoBulk d + 1
  | .slice elems spare => uptoBulkAll elems + uptoBulkAll spare + 1
  | .agg parts => uptoBulkAll parts + 1
  | .iface _ d => uptoBulk d + 1
  | .map entries => uptoBulkEntries entries + 1
  | .held _ => 1
def uptoBulkAll {H : Type} : List (DataW H) → Nat
  | [] => 0
  | d :: r => uptoBulk d + uptoBulkAll r
def uptoBulkEntries {H : Type} : List (Lit × DataW H) → Nat
  | [] => 0
  | x :: r => uptoBulkEntry x + uptoBulkEntries r
def uptoBulkEntry {H : Type} : Lit × DataW H → Nat
  | (.string bytes, d) => bytes.length + uptoBulk d + 1
  | (_, d) => uptoBulk d + 1
 end
def uptoSmall : (H : Type) → List (DataW H) → Bool := fun _ ds => decide (uptoBulkAll ds ≤ 1048576)
def OpenSpec.upto (s : _root_.Go.ChangeSpec) : _root_.Go.OpenSpec := { _root_.Go.OpenSpec.ofChange s with cond := some uptoSmall }

/-- 'laws.FnExactStepGraph', WHERE WHAT IT READS IS OF BULK AT MOST 1048576: true; the input reads as it did. -/
def fnExactStepGraphUptoRow : OpenClaim := { program := "ytjpjikfmdaejeaagreatdoor", sum := "9017a5ca83f7ab196ed9d5632b803fd354e28c92e7c33ac2701cf1313c7cca0f", func := "loop.example/graphreducer/laws.FnExactStepGraph", spec := "fnExactStepGraph", inPlace := ["internal/reflectlite.TypeOf"], unfollowed := true, recurses := true, named := ["loop.example/graphreducer/impl.errStuck", "loop.example/graphreducer/impl.errLarge", "loop.example/graphreducer/impl.errFuel"], ifaces := true, loops := true, apart := false, laid := [("loop.example/graphreducer/impl.errFuel", laid_loop_example_graphreducer_impl_errFuel), ("loop.example/graphreducer/impl.errStuck", laid_loop_example_graphreducer_impl_errStuck), ("loop.example/graphreducer/impl.errLarge", laid_loop_example_graphreducer_impl_errLarge)], narrowed := true }
def FnExactStepGraphUptoSaid : Prop := fnExactStepGraphUptoRow.holds Tryz.pinned (OpenSpec.upto fnExactStepGraphSpec)

/-- 'laws.FnExactEvalGraph', WHERE WHAT IT READS IS OF BULK AT MOST 1048576: true; the input reads as it did. -/
def fnExactEvalGraphUptoRow : OpenClaim := { program := "ytjpjikfmdaejeaagreatdoor", sum := "9017a5ca83f7ab196ed9d5632b803fd354e28c92e7c33ac2701cf1313c7cca0f", func := "loop.example/graphreducer/laws.FnExactEvalGraph", spec := "fnExactEvalGraph", inPlace := ["internal/reflectlite.TypeOf"], unfollowed := true, recurses := true, named := ["loop.example/graphreducer/impl.errFuel", "loop.example/graphreducer/impl.errStuck", "loop.example/graphreducer/impl.errLarge"], ifaces := true, loops := true, apart := false, laid := [("loop.example/graphreducer/impl.errFuel", laid_loop_example_graphreducer_impl_errFuel), ("loop.example/graphreducer/impl.errStuck", laid_loop_example_graphreducer_impl_errStuck), ("loop.example/graphreducer/impl.errLarge", laid_loop_example_graphreducer_impl_errLarge)], narrowed := true }
def FnExactEvalGraphUptoSaid : Prop := fnExactEvalGraphUptoRow.holds Tryz.pinned (OpenSpec.upto fnExactEvalGraphSpec)

end Rows
end Go.Proofs.YtjpjikfmdaejeaaGreatDoor

/-
  NARROWER THAN 'FOR EVERY INPUT', by the rows' own cells (each row's printed sentence says how): FnExactNumberNeed: loops, ifaces, laid · FnExactStepName: loops, ifaces, laid · FnExactEvalName: loops, ifaces, laid · FnExactNumberName: loops, ifaces, laid · FnExactTraceName: loops, ifaces, laid.
  DERIVED. THE GIVEN ROWS OF THIS SEAT. 5 by the template 'for every input the law returns true; each argument reads behind the call as it read before'; 0 by the template 'total and deterministic' (their statements: YtjpjikfmdaejeaaDoorTotals.lean).
  GIVEN WITH THE SEED: the statements are not yours to turn. If you find one false, say at which input.
  Laid BY PROGRAM, IN A SANDBOX (cutbox-rows.mjs): the forced cells as the released guide's own fill.sh prints them over the translation f1732c4b7c066ef9… (all of the seat's roots in one cut). By AI agents, Wed Nov 11 2026. No macro, syntax, notation, axiom, sorry.
-/
import Derived.Test.YtjpjikfmdaejeaaDoorChecked
import GoSem.Claim
import GoSem.ClaimJoined
import GoSem.ClaimMapViews
import Derived.JoinedTies
import Derived.KernelRfl
namespace Go.Proofs.YtjpjikfmdaejeaaDoor
/- THE CELL 'sum', in the pinned program and in every row, IS THE sha256 OF THE DUMP (.gsa) THAT YtjpjikfmdaejeaaDoorProg.lean LOADS. Nothing in Lean hashes anything: it is a label: what it is worth is what the hold of that sum in a sandbox is worth. -/
noncomputable def Tryd.pinned : Pinned := { name := "ytjpjikfmdaejeaadoor", sum := "f1732c4b7c066ef96d22e242b84c236fa6bd46e69d35d453bfd657c55fc13812", checked := Tryd.checked }
namespace Rows
def none {H : Type} : Left H := { results := [], args := [] }

/- WHAT THE LISTED PACKAGE-LEVEL VARIABLES READ AS WHEN THE CALL BEGINS. Each datum BY PROGRAM (the guide's laid-datum.mjs) off the statement by which the dump's own 'gosem.cut.vars' lays the variable. In a bare row this is a premise. The card (YtjpjikfmdaejeaaDoorCards.lean) ties it to the program's text. -/
def laid_loop_example_graphreducer_impl_errFuel {H : Type} : DataW H := .iface "*errors.errorString" (.ptr (.agg [.lit (.string [110, 111, 32, 102, 117, 101, 108, 32, 105, 115, 32, 108, 101, 102, 116])]))
def laid_loop_example_graphreducer_impl_errStuck {H : Type} : DataW H := .iface "*errors.errorString" (.ptr (.agg [.lit (.string [116, 104, 101, 114, 101, 32, 105, 115, 32, 110, 111, 32, 115, 116, 101, 112])]))
def laid_loop_example_graphreducer_impl_errLarge {H : Type} : DataW H := .iface "*errors.errorString" (.ptr (.agg [.lit (.string [116, 104, 101, 32, 114, 101, 115, 117, 108, 116, 32, 105, 115, 32, 116, 111, 111, 32, 108, 97, 114, 103, 101])]))
def laid_loop_example_graphreducer_impl_errInvalid {H : Type} : DataW H := .iface "*errors.errorString" (.ptr (.agg [.lit (.string [116, 104, 101, 32, 97, 114, 103, 117, 109, 101, 110, 116, 115, 32, 97, 114, 101, 32, 110, 111, 116, 32, 118, 97, 108, 105, 100])]))

/-- 'laws.FnExactNumberNeed': WHATEVER THE INPUT: true; the input reads as it did. -/
def fnExactNumberNeedSpec : ChangeSpec := { name := "fnExactNumberNeed", vars := ["loop.example/graphreducer/impl.errInvalid", "loop.example/graphreducer/impl.errFuel", "loop.example/graphreducer/impl.errStuck", "loop.example/graphreducer/impl.errLarge"], fn := fun _ => fun
  | [d1, d2, d3, g1, g2, g3, g4] => { results := [.lit (.bool true)], args := [d1, d2, d3], vars := [g1, g2, g3, g4] }
  | _ => none }
def fnExactNumberNeedRow : OpenClaim := { program := "ytjpjikfmdaejeaadoor", sum := "f1732c4b7c066ef96d22e242b84c236fa6bd46e69d35d453bfd657c55fc13812", func := "loop.example/graphreducer/laws.FnExactNumberNeed", spec := "fnExactNumberNeed", inPlace := ["internal/reflectlite.TypeOf"], unfollowed := true, recurses := true, named := ["loop.example/graphreducer/impl.errInvalid", "loop.example/graphreducer/impl.errFuel", "loop.example/graphreducer/impl.errStuck", "loop.example/graphreducer/impl.errLarge"], ifaces := true, loops := true, apart := false, laid := [("loop.example/graphreducer/impl.errFuel", laid_loop_example_graphreducer_impl_errFuel), ("loop.example/graphreducer/impl.errStuck", laid_loop_example_graphreducer_impl_errStuck), ("loop.example/graphreducer/impl.errLarge", laid_loop_example_graphreducer_impl_errLarge), ("loop.example/graphreducer/impl.errInvalid", laid_loop_example_graphreducer_impl_errInvalid)] }
def FnExactNumberNeedSaid : Prop := fnExactNumberNeedRow.holds Tryd.pinned (OpenSpec.ofChange fnExactNumberNeedSpec)

/-- ITS FALSE NEIGHBOUR: 'it returns false'. Refute it at one input. -/
def fnExactNumberNeedWrong : ChangeSpec := { name := "fnExactNumberNeed", vars := ["loop.example/graphreducer/impl.errInvalid", "loop.example/graphreducer/impl.errFuel", "loop.example/graphreducer/impl.errStuck", "loop.example/graphreducer/impl.errLarge"], fn := fun _ => fun
  | [d1, d2, d3, g1, g2, g3, g4] => { results := [.lit (.bool false)], args := [d1, d2, d3], vars := [g1, g2, g3, g4] }
  | _ => none }
def FnExactNumberNeedWrongFalsely : Prop := fnExactNumberNeedRow.holds Tryd.pinned (OpenSpec.ofChange fnExactNumberNeedWrong)

/-- 'laws.FnExactStepName': WHATEVER THE INPUT: true; the input reads as it did. -/
def fnExactStepNameSpec : ChangeSpec := { name := "fnExactStepName", vars := ["loop.example/graphreducer/impl.errLarge", "loop.example/graphreducer/impl.errStuck", "loop.example/graphreducer/impl.errFuel"], fn := fun _ => fun
  | [d1, d2, g1, g2, g3] => { results := [.lit (.bool true)], args := [d1, d2], vars := [g1, g2, g3] }
  | _ => none }
def fnExactStepNameRow : OpenClaim := { program := "ytjpjikfmdaejeaadoor", sum := "f1732c4b7c066ef96d22e242b84c236fa6bd46e69d35d453bfd657c55fc13812", func := "loop.example/graphreducer/laws.FnExactStepName", spec := "fnExactStepName", inPlace := ["internal/reflectlite.TypeOf"], unfollowed := true, recurses := true, named := ["loop.example/graphreducer/impl.errLarge", "loop.example/graphreducer/impl.errStuck", "loop.example/graphreducer/impl.errFuel"], ifaces := true, loops := true, apart := false, laid := [("loop.example/graphreducer/impl.errFuel", laid_loop_example_graphreducer_impl_errFuel), ("loop.example/graphreducer/impl.errStuck", laid_loop_example_graphreducer_impl_errStuck), ("loop.example/graphreducer/impl.errLarge", laid_loop_example_graphreducer_impl_errLarge)] }
def FnExactStepNameSaid : Prop := fnExactStepNameRow.holds Tryd.pinned (OpenSpec.ofChange fnExactStepNameSpec)

/-- ITS FALSE NEIGHBOUR: 'it returns false'. Refute it at one input. -/
def fnExactStepNameWrong : ChangeSpec := { name := "fnExactStepName", vars := ["loop.example/graphreducer/impl.errLarge", "loop.example/graphreducer/impl.errStuck", "loop.example/graphreducer/impl.errFuel"], fn := fun _ => fun
  | [d1, d2, g1, g2, g3] => { results := [.lit (.bool false)], args := [d1, d2], vars := [g1, g2, g3] }
  | _ => none }
def FnExactStepNameWrongFalsely : Prop := fnExactStepNameRow.holds Tryd.pinned (OpenSpec.ofChange fnExactStepNameWrong)

/-- 'laws.FnExactEvalName': WHATEVER THE INPUT: true; the input reads as it did. -/
def fnExactEvalNameSpec : ChangeSpec := { name := "fnExactEvalName", vars := ["loop.example/graphreducer/impl.errInvalid", "loop.example/graphreducer/impl.errFuel", "loop.example/graphreducer/impl.errLarge", "loop.example/graphreducer/impl.errStuck"], fn := fun _ => fun
  | [d1, d2, d3, g1, g2, g3, g4] => { results := [.lit (.bool true)], args := [d1, d2, d3], vars := [g1, g2, g3, g4] }
  | _ => none }
def fnExactEvalNameRow : OpenClaim := { program := "ytjpjikfmdaejeaadoor", sum := "f1732c4b7c066ef96d22e242b84c236fa6bd46e69d35d453bfd657c55fc13812", func := "loop.example/graphreducer/laws.FnExactEvalName", spec := "fnExactEvalName", inPlace := ["internal/reflectlite.TypeOf"], unfollowed := true, recurses := true, named := ["loop.example/graphreducer/impl.errInvalid", "loop.example/graphreducer/impl.errFuel", "loop.example/graphreducer/impl.errLarge", "loop.example/graphreducer/impl.errStuck"], ifaces := true, loops := true, apart := false, laid := [("loop.example/graphreducer/impl.errFuel", laid_loop_example_graphreducer_impl_errFuel), ("loop.example/graphreducer/impl.errStuck", laid_loop_example_graphreducer_impl_errStuck), ("loop.example/graphreducer/impl.errLarge", laid_loop_example_graphreducer_impl_errLarge), ("loop.example/graphreducer/impl.errInvalid", laid_loop_example_graphreducer_impl_errInvalid)] }
def FnExactEvalNameSaid : Prop := fnExactEvalNameRow.holds Tryd.pinned (OpenSpec.ofChange fnExactEvalNameSpec)

/-- ITS FALSE NEIGHBOUR: 'it returns false'. Refute it at one input. -/
def fnExactEvalNameWrong : ChangeSpec := { name := "fnExactEvalName", vars := ["loop.example/graphreducer/impl.errInvalid", "loop.example/graphreducer/impl.errFuel", "loop.example/graphreducer/impl.errLarge", "loop.example/graphreducer/impl.errStuck"], fn := fun _ => fun
  | [d1, d2, d3, g1, g2, g3, g4] => { results := [.lit (.bool false)], args := [d1, d2, d3], vars := [g1, g2, g3, g4] }
  | _ => none }
def FnExactEvalNameWrongFalsely : Prop := fnExactEvalNameRow.holds Tryd.pinned (OpenSpec.ofChange fnExactEvalNameWrong)

/-- 'laws.FnExactNumberName': WHATEVER THE INPUT: true; the input reads as it did. -/
def fnExactNumberNameSpec : ChangeSpec := { name := "fnExactNumberName", vars := ["loop.example/graphreducer/impl.errInvalid", "loop.example/graphreducer/impl.errFuel", "loop.example/graphreducer/impl.errLarge", "loop.example/graphreducer/impl.errStuck"], fn := fun _ => fun
  | [d1, d2, d3, g1, g2, g3, g4] => { results := [.lit (.bool true)], args := [d1, d2, d3], vars := [g1, g2, g3, g4] }
  | _ => none }
def fnExactNumberNameRow : OpenClaim := { program := "ytjpjikfmdaejeaadoor", sum := "f1732c4b7c066ef96d22e242b84c236fa6bd46e69d35d453bfd657c55fc13812", func := "loop.example/graphreducer/laws.FnExactNumberName", spec := "fnExactNumberName", inPlace := ["internal/reflectlite.TypeOf"], unfollowed := true, recurses := true, named := ["loop.example/graphreducer/impl.errInvalid", "loop.example/graphreducer/impl.errFuel", "loop.example/graphreducer/impl.errLarge", "loop.example/graphreducer/impl.errStuck"], ifaces := true, loops := true, apart := false, laid := [("loop.example/graphreducer/impl.errFuel", laid_loop_example_graphreducer_impl_errFuel), ("loop.example/graphreducer/impl.errStuck", laid_loop_example_graphreducer_impl_errStuck), ("loop.example/graphreducer/impl.errLarge", laid_loop_example_graphreducer_impl_errLarge), ("loop.example/graphreducer/impl.errInvalid", laid_loop_example_graphreducer_impl_errInvalid)] }
def FnExactNumberNameSaid : Prop := fnExactNumberNameRow.holds Tryd.pinned (OpenSpec.ofChange fnExactNumberNameSpec)

/-- ITS FALSE NEIGHBOUR: 'it returns false'. Refute it at one input. -/
def fnExactNumberNameWrong : ChangeSpec := { name := "fnExactNumberName", vars := ["loop.example/graphreducer/impl.errInvalid", "loop.example/graphreducer/impl.errFuel", "loop.example/graphreducer/impl.errLarge", "loop.example/graphreducer/impl.errStuck"], fn := fun _ => fun
  | [d1, d2, d3, g1, g2, g3, g4] => { results := [.lit (.bool false)], args := [d1, d2, d3], vars := [g1, g2, g3, g4] }
  | _ => none }
def FnExactNumberNameWrongFalsely : Prop := fnExactNumberNameRow.holds Tryd.pinned (OpenSpec.ofChange fnExactNumberNameWrong)

/-- 'laws.FnExactTraceName': WHATEVER THE INPUT: true; the input reads as it did. -/
def fnExactTraceNameSpec : ChangeSpec := { name := "fnExactTraceName", vars := ["loop.example/graphreducer/impl.errInvalid", "loop.example/graphreducer/impl.errFuel", "loop.example/graphreducer/impl.errLarge", "loop.example/graphreducer/impl.errStuck"], fn := fun _ => fun
  | [d1, d2, d3, g1, g2, g3, g4] => { results := [.lit (.bool true)], args := [d1, d2, d3], vars := [g1, g2, g3, g4] }
  | _ => none }
def fnExactTraceNameRow : OpenClaim := { program := "ytjpjikfmdaejeaadoor", sum := "f1732c4b7c066ef96d22e242b84c236fa6bd46e69d35d453bfd657c55fc13812", func := "loop.example/graphreducer/laws.FnExactTraceName", spec := "fnExactTraceName", inPlace := ["internal/reflectlite.TypeOf"], unfollowed := true, recurses := true, named := ["loop.example/graphreducer/impl.errInvalid", "loop.example/graphreducer/impl.errFuel", "loop.example/graphreducer/impl.errLarge", "loop.example/graphreducer/impl.errStuck"], ifaces := true, loops := true, apart := false, laid := [("loop.example/graphreducer/impl.errFuel", laid_loop_example_graphreducer_impl_errFuel), ("loop.example/graphreducer/impl.errStuck", laid_loop_example_graphreducer_impl_errStuck), ("loop.example/graphreducer/impl.errLarge", laid_loop_example_graphreducer_impl_errLarge), ("loop.example/graphreducer/impl.errInvalid", laid_loop_example_graphreducer_impl_errInvalid)] }
def FnExactTraceNameSaid : Prop := fnExactTraceNameRow.holds Tryd.pinned (OpenSpec.ofChange fnExactTraceNameSpec)

/-- ITS FALSE NEIGHBOUR: 'it returns false'. Refute it at one input. -/
def fnExactTraceNameWrong : ChangeSpec := { name := "fnExactTraceName", vars := ["loop.example/graphreducer/impl.errInvalid", "loop.example/graphreducer/impl.errFuel", "loop.example/graphreducer/impl.errLarge", "loop.example/graphreducer/impl.errStuck"], fn := fun _ => fun
  | [d1, d2, d3, g1, g2, g3, g4] => { results := [.lit (.bool false)], args := [d1, d2, d3], vars := [g1, g2, g3, g4] }
  | _ => none }
def FnExactTraceNameWrongFalsely : Prop := fnExactTraceNameRow.holds Tryd.pinned (OpenSpec.ofChange fnExactTraceNameWrong)

/- THE SECOND FORM. 'bulk': how many values and letters a reading holds, each counted each time it is reached (what is shared counts as often as it is met; a slice's spare places count too). A statement '..UptoSaid' is the law's where the arguments, and the package variables that the reading takes, are together of bulk at most 1048576: NARROWER than '..Said'. Prove '..Said' where nothing that the law and all that it calls make is longer than what came in: it says more and counts as full. Else prove '..UptoSaid'. A law counts once. -/
mutual
def uptoBulk {H : Type} : DataW H → Nat
  | .lit (.string bytes) => bytes.length + 1
  | .lit _ => 1
  | .nil => 1
  | .ptr d => uptoBulk d + 1
  | .slice elems spare => uptoBulkAll elems + uptoBulkAll spare + 1
  | .agg parts => uptoBulkAll parts + 1
  | .iface _ d => uptoBulk d + 1
  | .map entries => uptoBulkEntries entries + 1
  | .held _ => 1
def uptoBulkAll {H : Type} : List (DataW H) → Nat
  | [] => 0
  | d :: r => uptoBulk d + uptoBulkAll r
def uptoBulkEntries {H : Type} : List (Lit × DataW H) → Nat
  | [] => 0
  | x :: r => uptoBulkEntry x + uptoBulkEntries r
def uptoBulkEntry {H : Type} : Lit × DataW H → Nat
  | (.string bytes, d) => bytes.length + uptoBulk d + 1
  | (_, d) => uptoBulk d + 1
 end
def uptoSmall : (H : Type) → List (DataW H) → Bool := fun _ ds => decide (uptoBulkAll ds ≤ 1048576)
def OpenSpec.upto (s : _root_.Go.ChangeSpec) : _root_.Go.OpenSpec := { _root_.Go.OpenSpec.ofChange s with cond := some uptoSmall }

/-- 'laws.FnExactNumberNeed', WHERE WHAT IT READS IS OF BULK AT MOST 1048576: true; the input reads as it did. -/
def fnExactNumberNeedUptoRow : OpenClaim := { program := "ytjpjikfmdaejeaadoor", sum := "f1732c4b7c066ef96d22e242b84c236fa6bd46e69d35d453bfd657c55fc13812", func := "loop.example/graphreducer/laws.FnExactNumberNeed", spec := "fnExactNumberNeed", inPlace := ["internal/reflectlite.TypeOf"], unfollowed := true, recurses := true, named := ["loop.example/graphreducer/impl.errInvalid", "loop.example/graphreducer/impl.errFuel", "loop.example/graphreducer/impl.errStuck", "loop.example/graphreducer/impl.errLarge"], ifaces := true, loops := true, apart := false, laid := [("loop.example/graphreducer/impl.errFuel", laid_loop_example_graphreducer_impl_errFuel), ("loop.example/graphreducer/impl.errStuck", laid_loop_example_graphreducer_impl_errStuck), ("loop.example/graphreducer/impl.errLarge", laid_loop_example_graphreducer_impl_errLarge), ("loop.example/graphreducer/impl.errInvalid", laid_loop_example_graphreducer_impl_errInvalid)], narrowed := true }
def FnExactNumberNeedUptoSaid : Prop := fnExactNumberNeedUptoRow.holds Tryd.pinned (OpenSpec.upto fnExactNumberNeedSpec)

/-- 'laws.FnExactStepName', WHERE WHAT IT READS IS OF BULK AT MOST 1048576: true; the input reads as it did. -/
def fnExactStepNameUptoRow : OpenClaim := { program := "ytjpjikfmdaejeaadoor", sum := "f1732c4b7c066ef96d22e242b84c236fa6bd46e69d35d453bfd657c55fc13812", func := "loop.example/graphreducer/laws.FnExactStepName", spec := "fnExactStepName", inPlace := ["internal/reflectlite.TypeOf"], unfollowed := true, recurses := true, named := ["loop.example/graphreducer/impl.errLarge", "loop.example/graphreducer/impl.errStuck", "loop.example/graphreducer/impl.errFuel"], ifaces := true, loops := true, apart := false, laid := [("loop.example/graphreducer/impl.errFuel", laid_loop_example_graphreducer_impl_errFuel), ("loop.example/graphreducer/impl.errStuck", laid_loop_example_graphreducer_impl_errStuck), ("loop.example/graphreducer/impl.errLarge", laid_loop_example_graphreducer_impl_errLarge)], narrowed := true }
def FnExactStepNameUptoSaid : Prop := fnExactStepNameUptoRow.holds Tryd.pinned (OpenSpec.upto fnExactStepNameSpec)

/-- 'laws.FnExactEvalName', WHERE WHAT IT READS IS OF BULK AT MOST 1048576: true; the input reads as it did. -/
def fnExactEvalNameUptoRow : OpenClaim := { program := "ytjpjikfmdaejeaadoor", sum := "f1732c4b7c066ef96d22e242b84c236fa6bd46e69d35d453bfd657c55fc13812", func := "loop.example/graphreducer/laws.FnExactEvalName", spec := "fnExactEvalName", inPlace := ["internal/reflectlite.TypeOf"], unfollowed := true, recurses := true, named := ["loop.example/graphreducer/impl.errInvalid", "loop.example/graphreducer/impl.errFuel", "loop.example/graphreducer/impl.errLarge", "loop.example/graphreducer/impl.errStuck"], ifaces := true, loops := true, apart := false, laid := [("loop.example/graphreducer/impl.errFuel", laid_loop_example_graphreducer_impl_errFuel), ("loop.example/graphreducer/impl.errStuck", laid_loop_example_graphreducer_impl_errStuck), ("loop.example/graphreducer/impl.errLarge", laid_loop_example_graphreducer_impl_errLarge), ("loop.example/graphreducer/impl.errInvalid", laid_loop_example_graphreducer_impl_errInvalid)], narrowed := true }
def FnExactEvalNameUptoSaid : Prop := fnExactEvalNameUptoRow.holds Tryd.pinned (OpenSpec.upto fnExactEvalNameSpec)

/-- 'laws.FnExactNumberName', WHERE WHAT IT READS IS OF BULK AT MOST 1048576: true; the input reads as it did. -/
def fnExactNumberNameUptoRow : OpenClaim := { program := "ytjpjikfmdaejeaadoor", sum := "f1732c4b7c066ef96d22e242b84c236fa6bd46e69d35d453bfd657c55fc13812", func := "loop.example/graphreducer/laws.FnExactNumberName", spec := "fnExactNumberName", inPlace := ["internal/reflectlite.TypeOf"], unfollowed := true, recurses := true, named := ["loop.example/graphreducer/impl.errInvalid", "loop.example/graphreducer/impl.errFuel", "loop.example/graphreducer/impl.errLarge", "loop.example/graphreducer/impl.errStuck"], ifaces := true, loops := true, apart := false, laid := [("loop.example/graphreducer/impl.errFuel", laid_loop_example_graphreducer_impl_errFuel), ("loop.example/graphreducer/impl.errStuck", laid_loop_example_graphreducer_impl_errStuck), ("loop.example/graphreducer/impl.errLarge", laid_loop_example_graphreducer_impl_errLarge), ("loop.example/graphreducer/impl.errInvalid", laid_loop_example_graphreducer_impl_errInvalid)], narrowed := true }
def FnExactNumberNameUptoSaid : Prop := fnExactNumberNameUptoRow.holds Tryd.pinned (OpenSpec.upto fnExactNumberNameSpec)

/-- 'laws.FnExactTraceName', WHERE WHAT IT READS IS OF BULK AT MOST 1048576: true; the input reads as it did. -/
def fnExactTraceNameUptoRow : OpenClaim := { program := "ytjpjikfmdaejeaadoor", sum := "f1732c4b7c066ef96d22e242b84c236fa6bd46e69d35d453bfd657c55fc13812", func := "loop.example/graphreducer/laws.FnExactTraceName", spec := "fnExactTraceName", inPlace := ["internal/reflectlite.TypeOf"], unfollowed := true, recurses := true, named := ["loop.example/graphreducer/impl.errInvalid", "loop.example/graphreducer/impl.errFuel", "loop.example/graphreducer/impl.errLarge", "loop.example/graphreducer/impl.errStuck"], ifaces := true, loops := true, apart := false, laid := [("loop.example/graphreducer/impl.errFuel", laid_loop_example_graphreducer_impl_errFuel), ("loop.example/graphreducer/impl.errStuck", laid_loop_example_graphreducer_impl_errStuck), ("loop.example/graphreducer/impl.errLarge", laid_loop_example_graphreducer_impl_errLarge), ("loop.example/graphreducer/impl.errInvalid", laid_loop_example_graphreducer_impl_errInvalid)], narrowed := true }
def FnExactTraceNameUptoSaid : Prop := fnExactTraceNameUptoRow.holds Tryd.pinned (OpenSpec.upto fnExactTraceNameSpec)

end Rows
end Go.Proofs.YtjpjikfmdaejeaaDoor

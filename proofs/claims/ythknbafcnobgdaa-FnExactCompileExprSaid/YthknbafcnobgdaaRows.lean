/-
  NARROWER THAN 'FOR EVERY INPUT', by the rows' own cells (each row's printed sentence says how): FnExactCompileExpr: loops · FnExactArguments: loops.
  DERIVED. THE GIVEN ROWS OF THIS SEAT. 6 by the template 'for every input the law returns true; each argument reads behind the call as it read before'; 0 by the template 'total and deterministic' (their statements: YthknbafcnobgdaaTotals.lean).
  GIVEN WITH THE SEED: the statements are not yours to turn. If you find one false, say at which input.
  Laid BY PROGRAM, IN A SANDBOX (cutbox-rows.mjs): the forced cells as the released guide's own fill.sh prints them over the translation adac3cb10540ada1… (all of the seat's roots in one cut). By AI agents, Wed Nov 11 2026. No macro, syntax, notation, axiom, sorry.
-/
import Derived.Test.YthknbafcnobgdaaChecked
import GoSem.Claim
import GoSem.ClaimJoined
import GoSem.ClaimMapViews
import Derived.JoinedTies
import Derived.KernelRfl
namespace Go.Proofs.Ythknbafcnobgdaa
/- THE CELL 'sum', in the pinned program and in every row, IS THE sha256 OF THE DUMP (.gsa) THAT YthknbafcnobgdaaProg.lean LOADS. Nothing in Lean hashes anything: it is a label: what it is worth is what the hold of that sum in a sandbox is worth. -/
noncomputable def Try.pinned : Pinned := { name := "ythknbafcnobgdaa", sum := "adac3cb10540ada1691dd0080dbde29d5634acdc537706d685a28d81aecbc3ff", checked := Try.checked }
namespace Rows
def none {H : Type} : Left H := { results := [], args := [] }

/-- 'laws.FnExactCodeValid': WHATEVER THE INPUT: true; the input reads as it did. -/
def fnExactCodeValidSpec : ChangeSpec := { name := "fnExactCodeValid", fn := fun _ => fun
  | [d1, d2, d3] => { results := [.lit (.bool true)], args := [d1, d2, d3] }
  | _ => none }
def fnExactCodeValidRow : OpenClaim := { program := "ythknbafcnobgdaa", sum := "adac3cb10540ada1691dd0080dbde29d5634acdc537706d685a28d81aecbc3ff", func := "loop.example/graphreducer/laws.FnExactCodeValid", spec := "fnExactCodeValid", unfollowed := true, recurses := true, plainKeys := false, apart := false }
def FnExactCodeValidSaid : Prop := fnExactCodeValidRow.holds Try.pinned (OpenSpec.ofChange fnExactCodeValidSpec)

/-- ITS FALSE NEIGHBOUR: 'it returns false'. Refute it at one input. -/
def fnExactCodeValidWrong : ChangeSpec := { name := "fnExactCodeValid", fn := fun _ => fun
  | [d1, d2, d3] => { results := [.lit (.bool false)], args := [d1, d2, d3] }
  | _ => none }
def FnExactCodeValidWrongFalsely : Prop := fnExactCodeValidRow.holds Try.pinned (OpenSpec.ofChange fnExactCodeValidWrong)

/-- 'laws.FnExactCompileExpr': WHATEVER THE INPUT: true; the input reads as it did. -/
def fnExactCompileExprSpec : ChangeSpec := { name := "fnExactCompileExpr", fn := fun _ => fun
  | [d] => { results := [.lit (.bool true)], args := [d] }
  | _ => none }
def fnExactCompileExprRow : OpenClaim := { program := "ythknbafcnobgdaa", sum := "adac3cb10540ada1691dd0080dbde29d5634acdc537706d685a28d81aecbc3ff", func := "loop.example/graphreducer/laws.FnExactCompileExpr", spec := "fnExactCompileExpr", unfollowed := true, recurses := true, loops := true, plainKeys := false, apart := false }
def FnExactCompileExprSaid : Prop := fnExactCompileExprRow.holds Try.pinned (OpenSpec.ofChange fnExactCompileExprSpec)

/-- ITS FALSE NEIGHBOUR: 'it returns false'. Refute it at one input. -/
def fnExactCompileExprWrong : ChangeSpec := { name := "fnExactCompileExpr", fn := fun _ => fun
  | [d] => { results := [.lit (.bool false)], args := [d] }
  | _ => none }
def FnExactCompileExprWrongFalsely : Prop := fnExactCompileExprRow.holds Try.pinned (OpenSpec.ofChange fnExactCompileExprWrong)

/-- 'laws.FnExactDecompileCode': WHATEVER THE INPUT: true; the input reads as it did. -/
def fnExactDecompileCodeSpec : ChangeSpec := { name := "fnExactDecompileCode", fn := fun _ => fun
  | [d] => { results := [.lit (.bool true)], args := [d] }
  | _ => none }
def fnExactDecompileCodeRow : OpenClaim := { program := "ythknbafcnobgdaa", sum := "adac3cb10540ada1691dd0080dbde29d5634acdc537706d685a28d81aecbc3ff", func := "loop.example/graphreducer/laws.FnExactDecompileCode", spec := "fnExactDecompileCode", unfollowed := true, recurses := true, plainKeys := false, apart := false }
def FnExactDecompileCodeSaid : Prop := fnExactDecompileCodeRow.holds Try.pinned (OpenSpec.ofChange fnExactDecompileCodeSpec)

/-- ITS FALSE NEIGHBOUR: 'it returns false'. Refute it at one input. -/
def fnExactDecompileCodeWrong : ChangeSpec := { name := "fnExactDecompileCode", fn := fun _ => fun
  | [d] => { results := [.lit (.bool false)], args := [d] }
  | _ => none }
def FnExactDecompileCodeWrongFalsely : Prop := fnExactDecompileCodeRow.holds Try.pinned (OpenSpec.ofChange fnExactDecompileCodeWrong)

/-- 'laws.FnExactExecCode': WHATEVER THE INPUT: true; the input reads as it did. -/
def fnExactExecCodeSpec : ChangeSpec := { name := "fnExactExecCode", fn := fun _ => fun
  | [d1, d2, d3, d4] => { results := [.lit (.bool true)], args := [d1, d2, d3, d4] }
  | _ => none }
def fnExactExecCodeRow : OpenClaim := { program := "ythknbafcnobgdaa", sum := "adac3cb10540ada1691dd0080dbde29d5634acdc537706d685a28d81aecbc3ff", func := "loop.example/graphreducer/laws.FnExactExecCode", spec := "fnExactExecCode", unfollowed := true, recurses := true, plainKeys := false, apart := false }
def FnExactExecCodeSaid : Prop := fnExactExecCodeRow.holds Try.pinned (OpenSpec.ofChange fnExactExecCodeSpec)

/-- ITS FALSE NEIGHBOUR: 'it returns false'. Refute it at one input. -/
def fnExactExecCodeWrong : ChangeSpec := { name := "fnExactExecCode", fn := fun _ => fun
  | [d1, d2, d3, d4] => { results := [.lit (.bool false)], args := [d1, d2, d3, d4] }
  | _ => none }
def FnExactExecCodeWrongFalsely : Prop := fnExactExecCodeRow.holds Try.pinned (OpenSpec.ofChange fnExactExecCodeWrong)

/-- 'laws.FnExactStackOf': WHATEVER THE INPUT: true; the input reads as it did. -/
def fnExactStackOfSpec : ChangeSpec := { name := "fnExactStackOf", fn := fun _ => fun
  | [d] => { results := [.lit (.bool true)], args := [d] }
  | _ => none }
def fnExactStackOfRow : OpenClaim := { program := "ythknbafcnobgdaa", sum := "adac3cb10540ada1691dd0080dbde29d5634acdc537706d685a28d81aecbc3ff", func := "loop.example/graphreducer/laws.FnExactStackOf", spec := "fnExactStackOf", plainKeys := false, apart := false }
def FnExactStackOfSaid : Prop := fnExactStackOfRow.holds Try.pinned (OpenSpec.ofChange fnExactStackOfSpec)

/-- ITS FALSE NEIGHBOUR: 'it returns false'. Refute it at one input. -/
def fnExactStackOfWrong : ChangeSpec := { name := "fnExactStackOf", fn := fun _ => fun
  | [d] => { results := [.lit (.bool false)], args := [d] }
  | _ => none }
def FnExactStackOfWrongFalsely : Prop := fnExactStackOfRow.holds Try.pinned (OpenSpec.ofChange fnExactStackOfWrong)

/-- 'laws.FnExactArguments': WHATEVER THE INPUT: true; the input reads as it did. -/
def fnExactArgumentsSpec : ChangeSpec := { name := "fnExactArguments", fn := fun _ => fun
  | [d] => { results := [.lit (.bool true)], args := [d] }
  | _ => none }
def fnExactArgumentsRow : OpenClaim := { program := "ythknbafcnobgdaa", sum := "adac3cb10540ada1691dd0080dbde29d5634acdc537706d685a28d81aecbc3ff", func := "loop.example/graphreducer/laws.FnExactArguments", spec := "fnExactArguments", unfollowed := true, recurses := true, loops := true, plainKeys := false, apart := false }
def FnExactArgumentsSaid : Prop := fnExactArgumentsRow.holds Try.pinned (OpenSpec.ofChange fnExactArgumentsSpec)

/-- ITS FALSE NEIGHBOUR: 'it returns false'. Refute it at one input. -/
def fnExactArgumentsWrong : ChangeSpec := { name := "fnExactArguments", fn := fun _ => fun
  | [d] => { results := [.lit (.bool false)], args := [d] }
  | _ => none }
def FnExactArgumentsWrongFalsely : Prop := fnExactArgumentsRow.holds Try.pinned (OpenSpec.ofChange fnExactArgumentsWrong)

/- THE SECOND FORM. 'bulk': how many values and letters a reading holds, each counted each time it is reached (what is shared counts as often as it is met; a slice's spare places count too). A statement '..UptoSaid' is the law's where the arguments, and the package variables that the reading takes, are together of bulk at most 1048576: NARROWER than '..Said'. Prove '..Said' where nothing that the law and all that it calls make is longer than what came in: it says more and counts as full. Else prove '..UptoSaid'. A law counts once. -/
mutual
def uptoBulk {H : Type} : DataW H → Nat
  | .lit (.string bytes) => bytes.length + 1
  | .lit _ => 1
  | .nil => 1
  | .ptr d => uptoBulk d + 1
  | .slice elems spare => uptoBulkAll elems + uptoBulkAll spare + 1
  | .agg parts => uptoBulkAll parts + 1
  | .iface _ d => uptoBulk d + 1
  | .map entries => uptoBulkEntries entries + 1
  | .held _ => 1
def uptoBulkAll {H : Type} : List (DataW H) → Nat
  | [] => 0
  | d :: r => uptoBulk d + uptoBulkAll r
def uptoBulkEntries {H : Type} : List (Lit × DataW H) → Nat
  | [] => 0
  | x :: r => uptoBulkEntry x + uptoBulkEntries r
def uptoBulkEntry {H : Type} : Lit × DataW H → Nat
  | (.string bytes, d) => bytes.length + uptoBulk d + 1
  | (_, d) => uptoBulk d + 1
 end
def uptoSmall : (H : Type) → List (DataW H) → Bool := fun _ ds => decide (uptoBulkAll ds ≤ 1048576)
def OpenSpec.upto (s : _root_.Go.ChangeSpec) : _root_.Go.OpenSpec := { _root_.Go.OpenSpec.ofChange s with cond := some uptoSmall }

/-- 'laws.FnExactCodeValid', WHERE WHAT IT READS IS OF BULK AT MOST 1048576: true; the input reads as it did. -/
def fnExactCodeValidUptoRow : OpenClaim := { program := "ythknbafcnobgdaa", sum := "adac3cb10540ada1691dd0080dbde29d5634acdc537706d685a28d81aecbc3ff", func := "loop.example/graphreducer/laws.FnExactCodeValid", spec := "fnExactCodeValid", unfollowed := true, recurses := true, plainKeys := false, apart := false, narrowed := true }
def FnExactCodeValidUptoSaid : Prop := fnExactCodeValidUptoRow.holds Try.pinned (OpenSpec.upto fnExactCodeValidSpec)

/-- 'laws.FnExactCompileExpr', WHERE WHAT IT READS IS OF BULK AT MOST 1048576: true; the input reads as it did. -/
def fnExactCompileExprUptoRow : OpenClaim := { program := "ythknbafcnobgdaa", sum := "adac3cb10540ada1691dd0080dbde29d5634acdc537706d685a28d81aecbc3ff", func := "loop.example/graphreducer/laws.FnExactCompileExpr", spec := "fnExactCompileExpr", unfollowed := true, recurses := true, loops := true, plainKeys := false, apart := false, narrowed := true }
def FnExactCompileExprUptoSaid : Prop := fnExactCompileExprUptoRow.holds Try.pinned (OpenSpec.upto fnExactCompileExprSpec)

/-- 'laws.FnExactDecompileCode', WHERE WHAT IT READS IS OF BULK AT MOST 1048576: true; the input reads as it did. -/
def fnExactDecompileCodeUptoRow : OpenClaim := { program := "ythknbafcnobgdaa", sum := "adac3cb10540ada1691dd0080dbde29d5634acdc537706d685a28d81aecbc3ff", func := "loop.example/graphreducer/laws.FnExactDecompileCode", spec := "fnExactDecompileCode", unfollowed := true, recurses := true, plainKeys := false, apart := false, narrowed := true }
def FnExactDecompileCodeUptoSaid : Prop := fnExactDecompileCodeUptoRow.holds Try.pinned (OpenSpec.upto fnExactDecompileCodeSpec)

/-- 'laws.FnExactExecCode', WHERE WHAT IT READS IS OF BULK AT MOST 1048576: true; the input reads as it did. -/
def fnExactExecCodeUptoRow : OpenClaim := { program := "ythknbafcnobgdaa", sum := "adac3cb10540ada1691dd0080dbde29d5634acdc537706d685a28d81aecbc3ff", func := "loop.example/graphreducer/laws.FnExactExecCode", spec := "fnExactExecCode", unfollowed := true, recurses := true, plainKeys := false, apart := false, narrowed := true }
def FnExactExecCodeUptoSaid : Prop := fnExactExecCodeUptoRow.holds Try.pinned (OpenSpec.upto fnExactExecCodeSpec)

/-- 'laws.FnExactStackOf', WHERE WHAT IT READS IS OF BULK AT MOST 1048576: true; the input reads as it did. -/
def fnExactStackOfUptoRow : OpenClaim := { program := "ythknbafcnobgdaa", sum := "adac3cb10540ada1691dd0080dbde29d5634acdc537706d685a28d81aecbc3ff", func := "loop.example/graphreducer/laws.FnExactStackOf", spec := "fnExactStackOf", plainKeys := false, apart := false, narrowed := true }
def FnExactStackOfUptoSaid : Prop := fnExactStackOfUptoRow.holds Try.pinned (OpenSpec.upto fnExactStackOfSpec)

/-- 'laws.FnExactArguments', WHERE WHAT IT READS IS OF BULK AT MOST 1048576: true; the input reads as it did. -/
def fnExactArgumentsUptoRow : OpenClaim := { program := "ythknbafcnobgdaa", sum := "adac3cb10540ada1691dd0080dbde29d5634acdc537706d685a28d81aecbc3ff", func := "loop.example/graphreducer/laws.FnExactArguments", spec := "fnExactArguments", unfollowed := true, recurses := true, loops := true, plainKeys := false, apart := false, narrowed := true }
def FnExactArgumentsUptoSaid : Prop := fnExactArgumentsUptoRow.holds Try.pinned (OpenSpec.upto fnExactArgumentsSpec)

end Rows
end Go.Proofs.Ythknbafcnobgdaa

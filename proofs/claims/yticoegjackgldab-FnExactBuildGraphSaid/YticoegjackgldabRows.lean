/-
  NARROWER THAN 'FOR EVERY INPUT', by the rows' own cells (each row's printed sentence says how): FnExactArguments: loops · FnExactBuildGraph: loops · FnExactAddExpr: loops.
  DERIVED. THE GIVEN ROWS OF THIS SEAT. 8 by the template 'for every input the law returns true; each argument reads behind the call as it read before'; 0 by the template 'total and deterministic' (their statements: YticoegjackgldabTotals.lean).
  GIVEN WITH THE SEED: the statements are not yours to turn. If you find one false, say at which input.
  Laid BY PROGRAM, IN A SANDBOX (cutbox-rows.mjs): the forced cells as the released guide's own fill.sh prints them over the translation 883687ad9dcefd2d… (all of the seat's roots in one cut). By AI agents, Wed Nov 11 2026. No macro, syntax, notation, axiom, sorry.
-/
import Derived.Test.YticoegjackgldabChecked
import GoSem.Claim
import GoSem.ClaimJoined
import GoSem.ClaimMapViews
import Derived.JoinedTies
import Derived.KernelRfl
namespace Go.Proofs.Yticoegjackgldab
/- THE CELL 'sum', in the pinned program and in every row, IS THE sha256 OF THE DUMP (.gsa) THAT YticoegjackgldabProg.lean LOADS. Nothing in Lean hashes anything: it is a label: what it is worth is what the hold of that sum in a sandbox is worth. -/
noncomputable def Try.pinned : Pinned := { name := "yticoegjackgldab", sum := "883687ad9dcefd2de8f48610261b27818715cddf1faeb168b490d62f8433eaf4", checked := Try.checked }
namespace Rows
def none {H : Type} : Left H := { results := [], args := [] }

/-- 'laws.FnExactArguments': WHATEVER THE INPUT: true; the input reads as it did. -/
def fnExactArgumentsSpec : ChangeSpec := { name := "fnExactArguments", fn := fun _ => fun
  | [d] => { results := [.lit (.bool true)], args := [d] }
  | _ => none }
def fnExactArgumentsRow : OpenClaim := { program := "yticoegjackgldab", sum := "883687ad9dcefd2de8f48610261b27818715cddf1faeb168b490d62f8433eaf4", func := "loop.example/graphreducer/laws.FnExactArguments", spec := "fnExactArguments", unfollowed := true, recurses := true, loops := true, plainKeys := false, apart := false }
def FnExactArgumentsSaid : Prop := fnExactArgumentsRow.holds Try.pinned (OpenSpec.ofChange fnExactArgumentsSpec)

/-- ITS FALSE NEIGHBOUR: 'it returns false'. Refute it at one input. -/
def fnExactArgumentsWrong : ChangeSpec := { name := "fnExactArguments", fn := fun _ => fun
  | [d] => { results := [.lit (.bool false)], args := [d] }
  | _ => none }
def FnExactArgumentsWrongFalsely : Prop := fnExactArgumentsRow.holds Try.pinned (OpenSpec.ofChange fnExactArgumentsWrong)

/-- 'laws.FnExactGraphValid': WHATEVER THE INPUT: true; the input reads as it did. -/
def fnExactGraphValidSpec : ChangeSpec := { name := "fnExactGraphValid", fn := fun _ => fun
  | [d1, d2] => { results := [.lit (.bool true)], args := [d1, d2] }
  | _ => none }
def fnExactGraphValidRow : OpenClaim := { program := "yticoegjackgldab", sum := "883687ad9dcefd2de8f48610261b27818715cddf1faeb168b490d62f8433eaf4", func := "loop.example/graphreducer/laws.FnExactGraphValid", spec := "fnExactGraphValid", unfollowed := true, recurses := true, plainKeys := false, apart := false }
def FnExactGraphValidSaid : Prop := fnExactGraphValidRow.holds Try.pinned (OpenSpec.ofChange fnExactGraphValidSpec)

/-- ITS FALSE NEIGHBOUR: 'it returns false'. Refute it at one input. -/
def fnExactGraphValidWrong : ChangeSpec := { name := "fnExactGraphValid", fn := fun _ => fun
  | [d1, d2] => { results := [.lit (.bool false)], args := [d1, d2] }
  | _ => none }
def FnExactGraphValidWrongFalsely : Prop := fnExactGraphValidRow.holds Try.pinned (OpenSpec.ofChange fnExactGraphValidWrong)

/-- 'laws.FnExactBuildGraph': WHATEVER THE INPUT: true; the input reads as it did. -/
def fnExactBuildGraphSpec : ChangeSpec := { name := "fnExactBuildGraph", fn := fun _ => fun
  | [d1, d2] => { results := [.lit (.bool true)], args := [d1, d2] }
  | _ => none }
def fnExactBuildGraphRow : OpenClaim := { program := "yticoegjackgldab", sum := "883687ad9dcefd2de8f48610261b27818715cddf1faeb168b490d62f8433eaf4", func := "loop.example/graphreducer/laws.FnExactBuildGraph", spec := "fnExactBuildGraph", unfollowed := true, recurses := true, loops := true, plainKeys := false, apart := false }
def FnExactBuildGraphSaid : Prop := fnExactBuildGraphRow.holds Try.pinned (OpenSpec.ofChange fnExactBuildGraphSpec)

/-- ITS FALSE NEIGHBOUR: 'it returns false'. Refute it at one input. -/
def fnExactBuildGraphWrong : ChangeSpec := { name := "fnExactBuildGraph", fn := fun _ => fun
  | [d1, d2] => { results := [.lit (.bool false)], args := [d1, d2] }
  | _ => none }
def FnExactBuildGraphWrongFalsely : Prop := fnExactBuildGraphRow.holds Try.pinned (OpenSpec.ofChange fnExactBuildGraphWrong)

/-- 'laws.FnExactAddExpr': WHATEVER THE INPUT: true; the input reads as it did. -/
def fnExactAddExprSpec : ChangeSpec := { name := "fnExactAddExpr", fn := fun _ => fun
  | [d1, d2, d3, d4] => { results := [.lit (.bool true)], args := [d1, d2, d3, d4] }
  | _ => none }
def fnExactAddExprRow : OpenClaim := { program := "yticoegjackgldab", sum := "883687ad9dcefd2de8f48610261b27818715cddf1faeb168b490d62f8433eaf4", func := "loop.example/graphreducer/laws.FnExactAddExpr", spec := "fnExactAddExpr", unfollowed := true, recurses := true, loops := true, plainKeys := false, apart := false }
def FnExactAddExprSaid : Prop := fnExactAddExprRow.holds Try.pinned (OpenSpec.ofChange fnExactAddExprSpec)

/-- ITS FALSE NEIGHBOUR: 'it returns false'. Refute it at one input. -/
def fnExactAddExprWrong : ChangeSpec := { name := "fnExactAddExpr", fn := fun _ => fun
  | [d1, d2, d3, d4] => { results := [.lit (.bool false)], args := [d1, d2, d3, d4] }
  | _ => none }
def FnExactAddExprWrongFalsely : Prop := fnExactAddExprRow.holds Try.pinned (OpenSpec.ofChange fnExactAddExprWrong)

/-- 'laws.FnExactReadGraph': WHATEVER THE INPUT: true; the input reads as it did. -/
def fnExactReadGraphSpec : ChangeSpec := { name := "fnExactReadGraph", fn := fun _ => fun
  | [d1, d2, d3] => { results := [.lit (.bool true)], args := [d1, d2, d3] }
  | _ => none }
def fnExactReadGraphRow : OpenClaim := { program := "yticoegjackgldab", sum := "883687ad9dcefd2de8f48610261b27818715cddf1faeb168b490d62f8433eaf4", func := "loop.example/graphreducer/laws.FnExactReadGraph", spec := "fnExactReadGraph", unfollowed := true, recurses := true, plainKeys := false, apart := false }
def FnExactReadGraphSaid : Prop := fnExactReadGraphRow.holds Try.pinned (OpenSpec.ofChange fnExactReadGraphSpec)

/-- ITS FALSE NEIGHBOUR: 'it returns false'. Refute it at one input. -/
def fnExactReadGraphWrong : ChangeSpec := { name := "fnExactReadGraph", fn := fun _ => fun
  | [d1, d2, d3] => { results := [.lit (.bool false)], args := [d1, d2, d3] }
  | _ => none }
def FnExactReadGraphWrongFalsely : Prop := fnExactReadGraphRow.holds Try.pinned (OpenSpec.ofChange fnExactReadGraphWrong)

/-- 'laws.FnExactCellsFrom': WHATEVER THE INPUT: true; the input reads as it did. -/
def fnExactCellsFromSpec : ChangeSpec := { name := "fnExactCellsFrom", fn := fun _ => fun
  | [d1, d2] => { results := [.lit (.bool true)], args := [d1, d2] }
  | _ => none }
def fnExactCellsFromRow : OpenClaim := { program := "yticoegjackgldab", sum := "883687ad9dcefd2de8f48610261b27818715cddf1faeb168b490d62f8433eaf4", func := "loop.example/graphreducer/laws.FnExactCellsFrom", spec := "fnExactCellsFrom", unfollowed := true, recurses := true, plainKeys := false, apart := false }
def FnExactCellsFromSaid : Prop := fnExactCellsFromRow.holds Try.pinned (OpenSpec.ofChange fnExactCellsFromSpec)

/-- ITS FALSE NEIGHBOUR: 'it returns false'. Refute it at one input. -/
def fnExactCellsFromWrong : ChangeSpec := { name := "fnExactCellsFrom", fn := fun _ => fun
  | [d1, d2] => { results := [.lit (.bool false)], args := [d1, d2] }
  | _ => none }
def FnExactCellsFromWrongFalsely : Prop := fnExactCellsFromRow.holds Try.pinned (OpenSpec.ofChange fnExactCellsFromWrong)

/-- 'laws.FnExactFollowInd': WHATEVER THE INPUT: true; the input reads as it did. -/
def fnExactFollowIndSpec : ChangeSpec := { name := "fnExactFollowInd", fn := fun _ => fun
  | [d1, d2] => { results := [.lit (.bool true)], args := [d1, d2] }
  | _ => none }
def fnExactFollowIndRow : OpenClaim := { program := "yticoegjackgldab", sum := "883687ad9dcefd2de8f48610261b27818715cddf1faeb168b490d62f8433eaf4", func := "loop.example/graphreducer/laws.FnExactFollowInd", spec := "fnExactFollowInd", unfollowed := true, recurses := true, plainKeys := false, apart := false }
def FnExactFollowIndSaid : Prop := fnExactFollowIndRow.holds Try.pinned (OpenSpec.ofChange fnExactFollowIndSpec)

/-- ITS FALSE NEIGHBOUR: 'it returns false'. Refute it at one input. -/
def fnExactFollowIndWrong : ChangeSpec := { name := "fnExactFollowInd", fn := fun _ => fun
  | [d1, d2] => { results := [.lit (.bool false)], args := [d1, d2] }
  | _ => none }
def FnExactFollowIndWrongFalsely : Prop := fnExactFollowIndRow.holds Try.pinned (OpenSpec.ofChange fnExactFollowIndWrong)

/-- 'laws.FnExactGraphSame': WHATEVER THE INPUT: true; the input reads as it did. -/
def fnExactGraphSameSpec : ChangeSpec := { name := "fnExactGraphSame", fn := fun _ => fun
  | [d1, d2] => { results := [.lit (.bool true)], args := [d1, d2] }
  | _ => none }
def fnExactGraphSameRow : OpenClaim := { program := "yticoegjackgldab", sum := "883687ad9dcefd2de8f48610261b27818715cddf1faeb168b490d62f8433eaf4", func := "loop.example/graphreducer/laws.FnExactGraphSame", spec := "fnExactGraphSame", unfollowed := true, recurses := true, plainKeys := false, apart := false }
def FnExactGraphSameSaid : Prop := fnExactGraphSameRow.holds Try.pinned (OpenSpec.ofChange fnExactGraphSameSpec)

/-- ITS FALSE NEIGHBOUR: 'it returns false'. Refute it at one input. -/
def fnExactGraphSameWrong : ChangeSpec := { name := "fnExactGraphSame", fn := fun _ => fun
  | [d1, d2] => { results := [.lit (.bool false)], args := [d1, d2] }
  | _ => none }
def FnExactGraphSameWrongFalsely : Prop := fnExactGraphSameRow.holds Try.pinned (OpenSpec.ofChange fnExactGraphSameWrong)

/- THE SECOND FORM. 'bulk': how many values and letters a reading holds, each counted each time it is reached (what is shared counts as often as it is met; a slice's spare places count too). A statement '..UptoSaid' is the law's where the arguments, and the package variables that the reading takes, are together of bulk at most 1048576: NARROWER than '..Said'. Prove '..Said' where nothing that the law and all that it calls make is longer than what came in: it says more and counts as full. Else prove '..UptoSaid'. A law counts once. -/
mutual
def uptoBulk {H : Type} : DataW H → Nat
  | .lit (.string bytes) => bytes.length + 1
  | .lit _ => 1
  | .nil => 1
  | .ptr d => uptoBulk d + 1
  | .slice elems spare => uptoBulkAll elems + uptoBulkAll spare + 1
  | .agg parts => uptoBulkAll parts + 1
  | .iface _ d => uptoBulk d + 1
  | .map entries => uptoBulkEntries entries + 1
  | .held _ => 1
def uptoBulkAll {H : Type} : List (DataW H) → Nat
  | [] => 0
  | d :: r => uptoBulk d + uptoBulkAll r
def uptoBulkEntries {H : Type} : List (Lit × DataW H) → Nat
  | [] => 0
  | x :: r => uptoBulkEntry x + uptoBulkEntries r
def uptoBulkEntry {H : Type} : Lit × DataW H → Nat
  | (.string bytes, d) => bytes.length + uptoBulk d + 1
  | (_, d) => uptoBulk d + 1
 end
def uptoSmall : (H : Type) → List (DataW H) → Bool := fun _ ds => decide (uptoBulkAll ds ≤ 1048576)
def OpenSpec.upto (s : _root_.Go.ChangeSpec) : _root_.Go.OpenSpec := { _root_.Go.OpenSpec.ofChange s with cond := some uptoSmall }

/-- 'laws.FnExactArguments', WHERE WHAT IT READS IS OF BULK AT MOST 1048576: true; the input reads as it did. -/
def fnExactArgumentsUptoRow : OpenClaim := { program := "yticoegjackgldab", sum := "883687ad9dcefd2de8f48610261b27818715cddf1faeb168b490d62f8433eaf4", func := "loop.example/graphreducer/laws.FnExactArguments", spec := "fnExactArguments", unfollowed := true, recurses := true, loops := true, plainKeys := false, apart := false, narrowed := true }
def FnExactArgumentsUptoSaid : Prop := fnExactArgumentsUptoRow.holds Try.pinned (OpenSpec.upto fnExactArgumentsSpec)

/-- 'laws.FnExactGraphValid', WHERE WHAT IT READS IS OF BULK AT MOST 1048576: true; the input reads as it did. -/
def fnExactGraphValidUptoRow : OpenClaim := { program := "yticoegjackgldab", sum := "883687ad9dcefd2de8f48610261b27818715cddf1faeb168b490d62f8433eaf4", func := "loop.example/graphreducer/laws.FnExactGraphValid", spec := "fnExactGraphValid", unfollowed := true, recurses := true, plainKeys := false, apart := false, narrowed := true }
def FnExactGraphValidUptoSaid : Prop := fnExactGraphValidUptoRow.holds Try.pinned (OpenSpec.upto fnExactGraphValidSpec)

/-- 'laws.FnExactBuildGraph', WHERE WHAT IT READS IS OF BULK AT MOST 1048576: true; the input reads as it did. -/
def fnExactBuildGraphUptoRow : OpenClaim := { program := "yticoegjackgldab", sum := "883687ad9dcefd2de8f48610261b27818715cddf1faeb168b490d62f8433eaf4", func := "loop.example/graphreducer/laws.FnExactBuildGraph", spec := "fnExactBuildGraph", unfollowed := true, recurses := true, loops := true, plainKeys := false, apart := false, narrowed := true }
def FnExactBuildGraphUptoSaid : Prop := fnExactBuildGraphUptoRow.holds Try.pinned (OpenSpec.upto fnExactBuildGraphSpec)

/-- 'laws.FnExactAddExpr', WHERE WHAT IT READS IS OF BULK AT MOST 1048576: true; the input reads as it did. -/
def fnExactAddExprUptoRow : OpenClaim := { program := "yticoegjackgldab", sum := "883687ad9dcefd2de8f48610261b27818715cddf1faeb168b490d62f8433eaf4", func := "loop.example/graphreducer/laws.FnExactAddExpr", spec := "fnExactAddExpr", unfollowed := true, recurses := true, loops := true, plainKeys := false, apart := false, narrowed := true }
def FnExactAddExprUptoSaid : Prop := fnExactAddExprUptoRow.holds Try.pinned (OpenSpec.upto fnExactAddExprSpec)

/-- 'laws.FnExactReadGraph', WHERE WHAT IT READS IS OF BULK AT MOST 1048576: true; the input reads as it did. -/
def fnExactReadGraphUptoRow : OpenClaim := { program := "yticoegjackgldab", sum := "883687ad9dcefd2de8f48610261b27818715cddf1faeb168b490d62f8433eaf4", func := "loop.example/graphreducer/laws.FnExactReadGraph", spec := "fnExactReadGraph", unfollowed := true, recurses := true, plainKeys := false, apart := false, narrowed := true }
def FnExactReadGraphUptoSaid : Prop := fnExactReadGraphUptoRow.holds Try.pinned (OpenSpec.upto fnExactReadGraphSpec)

/-- 'laws.FnExactCellsFrom', WHERE WHAT IT READS IS OF BULK AT MOST 1048576: true; the input reads as it did. -/
def fnExactCellsFromUptoRow : OpenClaim := { program := "yticoegjackgldab", sum := "883687ad9dcefd2de8f48610261b27818715cddf1faeb168b490d62f8433eaf4", func := "loop.example/graphreducer/laws.FnExactCellsFrom", spec := "fnExactCellsFrom", unfollowed := true, recurses := true, plainKeys := false, apart := false, narrowed := true }
def FnExactCellsFromUptoSaid : Prop := fnExactCellsFromUptoRow.holds Try.pinned (OpenSpec.upto fnExactCellsFromSpec)

/-- 'laws.FnExactFollowInd', WHERE WHAT IT READS IS OF BULK AT MOST 1048576: true; the input reads as it did. -/
def fnExactFollowIndUptoRow : OpenClaim := { program := "yticoegjackgldab", sum := "883687ad9dcefd2de8f48610261b27818715cddf1faeb168b490d62f8433eaf4", func := "loop.example/graphreducer/laws.FnExactFollowInd", spec := "fnExactFollowInd", unfollowed := true, recurses := true, plainKeys := false, apart := false, narrowed := true }
def FnExactFollowIndUptoSaid : Prop := fnExactFollowIndUptoRow.holds Try.pinned (OpenSpec.upto fnExactFollowIndSpec)

/-- 'laws.FnExactGraphSame', WHERE WHAT IT READS IS OF BULK AT MOST 1048576: true; the input reads as it did. -/
def fnExactGraphSameUptoRow : OpenClaim := { program := "yticoegjackgldab", sum := "883687ad9dcefd2de8f48610261b27818715cddf1faeb168b490d62f8433eaf4", func := "loop.example/graphreducer/laws.FnExactGraphSame", spec := "fnExactGraphSame", unfollowed := true, recurses := true, plainKeys := false, apart := false, narrowed := true }
def FnExactGraphSameUptoSaid : Prop := fnExactGraphSameUptoRow.holds Try.pinned (OpenSpec.upto fnExactGraphSameSpec)

end Rows
end Go.Proofs.Yticoegjackgldab

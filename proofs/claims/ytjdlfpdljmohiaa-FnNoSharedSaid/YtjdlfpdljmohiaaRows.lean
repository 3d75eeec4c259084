/-
  No cell of these rows narrows 'for every input' (looked for: loops, veiled, ifaces, maps, wideKeys, modest, calm, conditions, laid).
  DERIVED. THE GIVEN ROWS OF THIS SEAT. 10 by the template 'for every input the law returns true; each argument reads behind the call as it read before'; 0 by the template 'total and deterministic' (their statements: YtjdlfpdljmohiaaTotals.lean).
  GIVEN WITH THE SEED: the statements are not yours to turn. If you find one false, say at which input.
  Laid BY PROGRAM, IN A SANDBOX (cutbox-rows.mjs): the forced cells as the released guide's own fill.sh prints them over the translation c347e2dbae1eafdc… (all of the seat's roots in one cut). By AI agents, Wed Nov 11 2026. No macro, syntax, notation, axiom, sorry.
-/
import Derived.Test.YtjdlfpdljmohiaaChecked
import GoSem.Claim
import GoSem.ClaimJoined
import GoSem.ClaimMapViews
import Derived.JoinedTies
import Derived.KernelRfl
namespace Go.Proofs.Ytjdlfpdljmohiaa
/- THE CELL 'sum', in the pinned program and in every row, IS THE sha256 OF THE DUMP (.gsa) THAT YtjdlfpdljmohiaaProg.lean LOADS. Nothing in Lean hashes anything: it is a label: what it is worth is what the hold of that sum in a sandbox is worth. -/
noncomputable def Try.pinned : Pinned := { name := "ytjdlfpdljmohiaa", sum := "c347e2dbae1eafdc167fea4c91f59bcacc55daae4bbe67398f041def48b3ee40", checked := Try.checked }
namespace Rows
def none {H : Type} : Left H := { results := [], args := [] }

/-- 'laws.FnFollowInd': WHATEVER THE INPUT: true; the input reads as it did. -/
def fnFollowIndSpec : ChangeSpec := { name := "fnFollowInd", fn := fun _ => fun
  | [d] => { results := [.lit (.bool true)], args := [d] }
  | _ => none }
def fnFollowIndRow : OpenClaim := { program := "ytjdlfpdljmohiaa", sum := "c347e2dbae1eafdc167fea4c91f59bcacc55daae4bbe67398f041def48b3ee40", func := "loop.example/graphreducer/laws.FnFollowInd", spec := "fnFollowInd", unfollowed := true, recurses := true, plainKeys := false, apart := false }
def FnFollowIndSaid : Prop := fnFollowIndRow.holds Try.pinned (OpenSpec.ofChange fnFollowIndSpec)

/-- ITS FALSE NEIGHBOUR: 'it returns false'. Refute it at one input. -/
def fnFollowIndWrong : ChangeSpec := { name := "fnFollowInd", fn := fun _ => fun
  | [d] => { results := [.lit (.bool false)], args := [d] }
  | _ => none }
def FnFollowIndWrongFalsely : Prop := fnFollowIndRow.holds Try.pinned (OpenSpec.ofChange fnFollowIndWrong)

/-- 'laws.FnCellsFrom': WHATEVER THE INPUT: true; the input reads as it did. -/
def fnCellsFromSpec : ChangeSpec := { name := "fnCellsFrom", fn := fun _ => fun
  | [d] => { results := [.lit (.bool true)], args := [d] }
  | _ => none }
def fnCellsFromRow : OpenClaim := { program := "ytjdlfpdljmohiaa", sum := "c347e2dbae1eafdc167fea4c91f59bcacc55daae4bbe67398f041def48b3ee40", func := "loop.example/graphreducer/laws.FnCellsFrom", spec := "fnCellsFrom", unfollowed := true, recurses := true, plainKeys := false, apart := false }
def FnCellsFromSaid : Prop := fnCellsFromRow.holds Try.pinned (OpenSpec.ofChange fnCellsFromSpec)

/-- ITS FALSE NEIGHBOUR: 'it returns false'. Refute it at one input. -/
def fnCellsFromWrong : ChangeSpec := { name := "fnCellsFrom", fn := fun _ => fun
  | [d] => { results := [.lit (.bool false)], args := [d] }
  | _ => none }
def FnCellsFromWrongFalsely : Prop := fnCellsFromRow.holds Try.pinned (OpenSpec.ofChange fnCellsFromWrong)

/-- 'laws.FnReadGraph': WHATEVER THE INPUT: true; the input reads as it did. -/
def fnReadGraphSpec : ChangeSpec := { name := "fnReadGraph", fn := fun _ => fun
  | [d] => { results := [.lit (.bool true)], args := [d] }
  | _ => none }
def fnReadGraphRow : OpenClaim := { program := "ytjdlfpdljmohiaa", sum := "c347e2dbae1eafdc167fea4c91f59bcacc55daae4bbe67398f041def48b3ee40", func := "loop.example/graphreducer/laws.FnReadGraph", spec := "fnReadGraph", unfollowed := true, recurses := true, plainKeys := false, apart := false }
def FnReadGraphSaid : Prop := fnReadGraphRow.holds Try.pinned (OpenSpec.ofChange fnReadGraphSpec)

/-- ITS FALSE NEIGHBOUR: 'it returns false'. Refute it at one input. -/
def fnReadGraphWrong : ChangeSpec := { name := "fnReadGraph", fn := fun _ => fun
  | [d] => { results := [.lit (.bool false)], args := [d] }
  | _ => none }
def FnReadGraphWrongFalsely : Prop := fnReadGraphRow.holds Try.pinned (OpenSpec.ofChange fnReadGraphWrong)

/-- 'laws.FnAddInd': WHATEVER THE INPUT: true; the input reads as it did. -/
def fnAddIndSpec : ChangeSpec := { name := "fnAddInd", fn := fun _ => fun
  | [d] => { results := [.lit (.bool true)], args := [d] }
  | _ => none }
def fnAddIndRow : OpenClaim := { program := "ytjdlfpdljmohiaa", sum := "c347e2dbae1eafdc167fea4c91f59bcacc55daae4bbe67398f041def48b3ee40", func := "loop.example/graphreducer/laws.FnAddInd", spec := "fnAddInd", unfollowed := true, recurses := true, plainKeys := false, apart := false }
def FnAddIndSaid : Prop := fnAddIndRow.holds Try.pinned (OpenSpec.ofChange fnAddIndSpec)

/-- ITS FALSE NEIGHBOUR: 'it returns false'. Refute it at one input. -/
def fnAddIndWrong : ChangeSpec := { name := "fnAddInd", fn := fun _ => fun
  | [d] => { results := [.lit (.bool false)], args := [d] }
  | _ => none }
def FnAddIndWrongFalsely : Prop := fnAddIndRow.holds Try.pinned (OpenSpec.ofChange fnAddIndWrong)

/-- 'laws.FnReadTwice': WHATEVER THE INPUT: true; the input reads as it did. -/
def fnReadTwiceSpec : ChangeSpec := { name := "fnReadTwice", fn := fun _ => fun
  | [d] => { results := [.lit (.bool true)], args := [d] }
  | _ => none }
def fnReadTwiceRow : OpenClaim := { program := "ytjdlfpdljmohiaa", sum := "c347e2dbae1eafdc167fea4c91f59bcacc55daae4bbe67398f041def48b3ee40", func := "loop.example/graphreducer/laws.FnReadTwice", spec := "fnReadTwice", unfollowed := true, recurses := true, plainKeys := false, apart := false }
def FnReadTwiceSaid : Prop := fnReadTwiceRow.holds Try.pinned (OpenSpec.ofChange fnReadTwiceSpec)

/-- ITS FALSE NEIGHBOUR: 'it returns false'. Refute it at one input. -/
def fnReadTwiceWrong : ChangeSpec := { name := "fnReadTwice", fn := fun _ => fun
  | [d] => { results := [.lit (.bool false)], args := [d] }
  | _ => none }
def FnReadTwiceWrongFalsely : Prop := fnReadTwiceRow.holds Try.pinned (OpenSpec.ofChange fnReadTwiceWrong)

/-- 'laws.FnSharedCells': WHATEVER THE INPUT: true; the input reads as it did. -/
def fnSharedCellsSpec : ChangeSpec := { name := "fnSharedCells", fn := fun _ => fun
  | [d] => { results := [.lit (.bool true)], args := [d] }
  | _ => none }
def fnSharedCellsRow : OpenClaim := { program := "ytjdlfpdljmohiaa", sum := "c347e2dbae1eafdc167fea4c91f59bcacc55daae4bbe67398f041def48b3ee40", func := "loop.example/graphreducer/laws.FnSharedCells", spec := "fnSharedCells", unfollowed := true, recurses := true, plainKeys := false, apart := false }
def FnSharedCellsSaid : Prop := fnSharedCellsRow.holds Try.pinned (OpenSpec.ofChange fnSharedCellsSpec)

/-- ITS FALSE NEIGHBOUR: 'it returns false'. Refute it at one input. -/
def fnSharedCellsWrong : ChangeSpec := { name := "fnSharedCells", fn := fun _ => fun
  | [d] => { results := [.lit (.bool false)], args := [d] }
  | _ => none }
def FnSharedCellsWrongFalsely : Prop := fnSharedCellsRow.holds Try.pinned (OpenSpec.ofChange fnSharedCellsWrong)

/-- 'laws.FnNoShared': WHATEVER THE INPUT: true; the input reads as it did. -/
def fnNoSharedSpec : ChangeSpec := { name := "fnNoShared", fn := fun _ => fun
  | [d] => { results := [.lit (.bool true)], args := [d] }
  | _ => none }
def fnNoSharedRow : OpenClaim := { program := "ytjdlfpdljmohiaa", sum := "c347e2dbae1eafdc167fea4c91f59bcacc55daae4bbe67398f041def48b3ee40", func := "loop.example/graphreducer/laws.FnNoShared", spec := "fnNoShared", unfollowed := true, recurses := true, plainKeys := false, apart := false }
def FnNoSharedSaid : Prop := fnNoSharedRow.holds Try.pinned (OpenSpec.ofChange fnNoSharedSpec)

/-- ITS FALSE NEIGHBOUR: 'it returns false'. Refute it at one input. -/
def fnNoSharedWrong : ChangeSpec := { name := "fnNoShared", fn := fun _ => fun
  | [d] => { results := [.lit (.bool false)], args := [d] }
  | _ => none }
def FnNoSharedWrongFalsely : Prop := fnNoSharedRow.holds Try.pinned (OpenSpec.ofChange fnNoSharedWrong)

/-- 'laws.FnAddExpr': WHATEVER THE INPUT: true; the input reads as it did. -/
def fnAddExprSpec : ChangeSpec := { name := "fnAddExpr", fn := fun _ => fun
  | [d] => { results := [.lit (.bool true)], args := [d] }
  | _ => none }
def fnAddExprRow : OpenClaim := { program := "ytjdlfpdljmohiaa", sum := "c347e2dbae1eafdc167fea4c91f59bcacc55daae4bbe67398f041def48b3ee40", func := "loop.example/graphreducer/laws.FnAddExpr", spec := "fnAddExpr", unfollowed := true, recurses := true, plainKeys := false, apart := false }
def FnAddExprSaid : Prop := fnAddExprRow.holds Try.pinned (OpenSpec.ofChange fnAddExprSpec)

/-- ITS FALSE NEIGHBOUR: 'it returns false'. Refute it at one input. -/
def fnAddExprWrong : ChangeSpec := { name := "fnAddExpr", fn := fun _ => fun
  | [d] => { results := [.lit (.bool false)], args := [d] }
  | _ => none }
def FnAddExprWrongFalsely : Prop := fnAddExprRow.holds Try.pinned (OpenSpec.ofChange fnAddExprWrong)

/-- 'laws.FnAddTwice': WHATEVER THE INPUT: true; the input reads as it did. -/
def fnAddTwiceSpec : ChangeSpec := { name := "fnAddTwice", fn := fun _ => fun
  | [d] => { results := [.lit (.bool true)], args := [d] }
  | _ => none }
def fnAddTwiceRow : OpenClaim := { program := "ytjdlfpdljmohiaa", sum := "c347e2dbae1eafdc167fea4c91f59bcacc55daae4bbe67398f041def48b3ee40", func := "loop.example/graphreducer/laws.FnAddTwice", spec := "fnAddTwice", unfollowed := true, recurses := true, plainKeys := false, apart := false }
def FnAddTwiceSaid : Prop := fnAddTwiceRow.holds Try.pinned (OpenSpec.ofChange fnAddTwiceSpec)

/-- ITS FALSE NEIGHBOUR: 'it returns false'. Refute it at one input. -/
def fnAddTwiceWrong : ChangeSpec := { name := "fnAddTwice", fn := fun _ => fun
  | [d] => { results := [.lit (.bool false)], args := [d] }
  | _ => none }
def FnAddTwiceWrongFalsely : Prop := fnAddTwiceRow.holds Try.pinned (OpenSpec.ofChange fnAddTwiceWrong)

/-- 'laws.FnSpineOf': WHATEVER THE INPUT: true; the input reads as it did. -/
def fnSpineOfSpec : ChangeSpec := { name := "fnSpineOf", fn := fun _ => fun
  | [d] => { results := [.lit (.bool true)], args := [d] }
  | _ => none }
def fnSpineOfRow : OpenClaim := { program := "ytjdlfpdljmohiaa", sum := "c347e2dbae1eafdc167fea4c91f59bcacc55daae4bbe67398f041def48b3ee40", func := "loop.example/graphreducer/laws.FnSpineOf", spec := "fnSpineOf", unfollowed := true, recurses := true, plainKeys := false, apart := false }
def FnSpineOfSaid : Prop := fnSpineOfRow.holds Try.pinned (OpenSpec.ofChange fnSpineOfSpec)

/-- ITS FALSE NEIGHBOUR: 'it returns false'. Refute it at one input. -/
def fnSpineOfWrong : ChangeSpec := { name := "fnSpineOf", fn := fun _ => fun
  | [d] => { results := [.lit (.bool false)], args := [d] }
  | _ => none }
def FnSpineOfWrongFalsely : Prop := fnSpineOfRow.holds Try.pinned (OpenSpec.ofChange fnSpineOfWrong)

/- THE SECOND FORM. 'bulk': how many values and letters a reading holds, each counted each time it is reached (what is shared counts as often as it is met; a slice's spare places count too). A statement '..UptoSaid' is the law's where the arguments, and the package variables that the reading takes, are together of bulk at most 1048576: NARROWER than '..Said'. Prove '..Said' where nothing that the law and all that it calls make is longer than what came in: it says more and counts as full. Else prove '..UptoSaid'. A law counts once. -/
mutual
def uptoBulk {H : Type} : DataW H → Nat
  | .lit (.string bytes) => bytes.length + 1
  | .lit _ => 1
  | .nil => 1
  | .ptr d => uptoBulk d + 1
  | .slice elems spare => uptoBulkAll elems + uptoBulkAll spare + 1
  | .agg parts => uptoBulkAll parts + 1
  | .iface _ d => uptoBulk d + 1
  | .map entries => uptoBulkEntries entries + 1
  | .held _ => 1
def uptoBulkAll {H : Type} : List (DataW H) → Nat
  | [] => 0
  | d :: r => uptoBulk d + uptoBulkAll r
def uptoBulkEntries {H : Type} : List (Lit × DataW H) → Nat
  | [] => 0
  | x :: r => uptoBulkEntry x + uptoBulkEntries r
def uptoBulkEntry {H : Type} : Lit × DataW H → Nat
  | (.string bytes, d) => bytes.length + uptoBulk d + 1
  | (_, d) => uptoBulk d + 1
 end
def uptoSmall : (H : Type) → List (DataW H) → Bool := fun _ ds => decide (uptoBulkAll ds ≤ 1048576)
def OpenSpec.upto (s : _root_.Go.ChangeSpec) : _root_.Go.OpenSpec := { _root_.Go.OpenSpec.ofChange s with cond := some uptoSmall }

/-- 'laws.FnFollowInd', WHERE WHAT IT READS IS OF BULK AT MOST 1048576: true; the input reads as it did. -/
def fnFollowIndUptoRow : OpenClaim := { program := "ytjdlfpdljmohiaa", sum := "c347e2dbae1eafdc167fea4c91f59bcacc55daae4bbe67398f041def48b3ee40", func := "loop.example/graphreducer/laws.FnFollowInd", spec := "fnFollowInd", unfollowed := true, recurses := true, plainKeys := false, apart := false, narrowed := true }
def FnFollowIndUptoSaid : Prop := fnFollowIndUptoRow.holds Try.pinned (OpenSpec.upto fnFollowIndSpec)

/-- 'laws.FnCellsFrom', WHERE WHAT IT READS IS OF BULK AT MOST 1048576: true; the input reads as it did. -/
def fnCellsFromUptoRow : OpenClaim := { program := "ytjdlfpdljmohiaa", sum := "c347e2dbae1eafdc167fea4c91f59bcacc55daae4bbe67398f041def48b3ee40", func := "loop.example/graphreducer/laws.FnCellsFrom", spec := "fnCellsFrom", unfollowed := true, recurses := true, plainKeys := false, apart := false, narrowed := true }
def FnCellsFromUptoSaid : Prop := fnCellsFromUptoRow.holds Try.pinned (OpenSpec.upto fnCellsFromSpec)

/-- 'laws.FnReadGraph', WHERE WHAT IT READS IS OF BULK AT MOST 1048576: true; the input reads as it did. -/
def fnReadGraphUptoRow : OpenClaim := { program := "ytjdlfpdljmohiaa", sum := "c347e2dbae1eafdc167fea4c91f59bcacc55daae4bbe67398f041def48b3ee40", func := "loop.example/graphreducer/laws.FnReadGraph", spec := "fnReadGraph", unfollowed := true, recurses := true, plainKeys := false, apart := false, narrowed := true }
def FnReadGraphUptoSaid : Prop := fnReadGraphUptoRow.holds Try.pinned (OpenSpec.upto fnReadGraphSpec)

/-- 'laws.FnAddInd', WHERE WHAT IT READS IS OF BULK AT MOST 1048576: true; the input reads as it did. -/
def fnAddIndUptoRow : OpenClaim := { program := "ytjdlfpdljmohiaa", sum := "c347e2dbae1eafdc167fea4c91f59bcacc55daae4bbe67398f041def48b3ee40", func := "loop.example/graphreducer/laws.FnAddInd", spec := "fnAddInd", unfollowed := true, recurses := true, plainKeys := false, apart := false, narrowed := true }
def FnAddIndUptoSaid : Prop := fnAddIndUptoRow.holds Try.pinned (OpenSpec.upto fnAddIndSpec)

/-- 'laws.FnReadTwice', WHERE WHAT IT READS IS OF BULK AT MOST 1048576: true; the input reads as it did. -/
def fnReadTwiceUptoRow : OpenClaim := { program := "ytjdlfpdljmohiaa", sum := "c347e2dbae1eafdc167fea4c91f59bcacc55daae4bbe67398f041def48b3ee40", func := "loop.example/graphreducer/laws.FnReadTwice", spec := "fnReadTwice", unfollowed := true, recurses := true, plainKeys := false, apart := false, narrowed := true }
def FnReadTwiceUptoSaid : Prop := fnReadTwiceUptoRow.holds Try.pinned (OpenSpec.upto fnReadTwiceSpec)

/-- 'laws.FnSharedCells', WHERE WHAT IT READS IS OF BULK AT MOST 1048576: true; the input reads as it did. -/
def fnSharedCellsUptoRow : OpenClaim := { program := "ytjdlfpdljmohiaa", sum := "c347e2dbae1eafdc167fea4c91f59bcacc55daae4bbe67398f041def48b3ee40", func := "loop.example/graphreducer/laws.FnSharedCells", spec := "fnSharedCells", unfollowed := true, recurses := true, plainKeys := false, apart := false, narrowed := true }
def FnSharedCellsUptoSaid : Prop := fnSharedCellsUptoRow.holds Try.pinned (OpenSpec.upto fnSharedCellsSpec)

/-- 'laws.FnNoShared', WHERE WHAT IT READS IS OF BULK AT MOST 1048576: true; the input reads as it did. -/
def fnNoSharedUptoRow : OpenClaim := { program := "ytjdlfpdljmohiaa", sum := "c347e2dbae1eafdc167fea4c91f59bcacc55daae4bbe67398f041def48b3ee40", func := "loop.example/graphreducer/laws.FnNoShared", spec := "fnNoShared", unfollowed := true, recurses := true, plainKeys := false, apart := false, narrowed := true }
def FnNoSharedUptoSaid : Prop := fnNoSharedUptoRow.holds Try.pinned (OpenSpec.upto fnNoSharedSpec)

/-- 'laws.FnAddExpr', WHERE WHAT IT READS IS OF BULK AT MOST 1048576: true; the input reads as it did. -/
def fnAddExprUptoRow : OpenClaim := { program := "ytjdlfpdljmohiaa", sum := "c347e2dbae1eafdc167fea4c91f59bcacc55daae4bbe67398f041def48b3ee40", func := "loop.example/graphreducer/laws.FnAddExpr", spec := "fnAddExpr", unfollowed := true, recurses := true, plainKeys := false, apart := false, narrowed := true }
def FnAddExprUptoSaid : Prop := fnAddExprUptoRow.holds Try.pinned (OpenSpec.upto fnAddExprSpec)

/-- 'laws.FnAddTwice', WHERE WHAT IT READS IS OF BULK AT MOST 1048576: true; the input reads as it did. -/
def fnAddTwiceUptoRow : OpenClaim := { program := "ytjdlfpdljmohiaa", sum := "c347e2dbae1eafdc167fea4c91f59bcacc55daae4bbe67398f041def48b3ee40", func := "loop.example/graphreducer/laws.FnAddTwice", spec := "fnAddTwice", unfollowed := true, recurses := true, plainKeys := false, apart := false, narrowed := true }
def FnAddTwiceUptoSaid : Prop := fnAddTwiceUptoRow.holds Try.pinned (OpenSpec.upto fnAddTwiceSpec)

/-- 'laws.FnSpineOf', WHERE WHAT IT READS IS OF BULK AT MOST 1048576: true; the input reads as it did. -/
def fnSpineOfUptoRow : OpenClaim := { program := "ytjdlfpdljmohiaa", sum := "c347e2dbae1eafdc167fea4c91f59bcacc55daae4bbe67398f041def48b3ee40", func := "loop.example/graphreducer/laws.FnSpineOf", spec := "fnSpineOf", unfollowed := true, recurses := true, plainKeys := false, apart := false, narrowed := true }
def FnSpineOfUptoSaid : Prop := fnSpineOfUptoRow.holds Try.pinned (OpenSpec.upto fnSpineOfSpec)

end Rows
end Go.Proofs.Ytjdlfpdljmohiaa

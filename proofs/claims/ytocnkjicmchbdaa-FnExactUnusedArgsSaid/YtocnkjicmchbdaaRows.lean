/-
  NARROWER THAN 'FOR EVERY INPUT', by the rows' own cells (each row's printed sentence says how): FnExactStrictIn: loops · FnExactStrictArgs: loops · FnExactNeedHolds: loops · FnExactUnusedArgs: loops · FnExactArguments: loops.
  DERIVED. THE GIVEN ROWS OF THIS SEAT. 6 by the template 'for every input the law returns true; each argument reads behind the call as it read before'; 0 by the template 'total and deterministic' (their statements: YtocnkjicmchbdaaTotals.lean).
  GIVEN WITH THE SEED: the statements are not yours to turn. If you find one false, say at which input.
  Laid BY PROGRAM, IN A SANDBOX (cutbox-rows.mjs): the forced cells as the released guide's own fill.sh prints them over the translation e33e301fcad1dba5… (all of the seat's roots in one cut). By AI agents, Wed Nov 11 2026. No macro, syntax, notation, axiom, sorry.
-/
import Derived.Test.YtocnkjicmchbdaaChecked
import GoSem.Claim
import GoSem.ClaimJoined
import GoSem.ClaimMapViews
import Derived.JoinedTies
import Derived.KernelRfl
namespace Go.Proofs.Ytocnkjicmchbdaa
/- THE CELL 'sum', in the pinned program and in every row, IS THE sha256 OF THE DUMP (.gsa) THAT YtocnkjicmchbdaaProg.lean LOADS. Nothing in Lean hashes anything: it is a label: what it is worth is what the hold of that sum in a sandbox is worth. -/
noncomputable def Try.pinned : Pinned := { name := "ytocnkjicmchbdaa", sum := "e33e301fcad1dba5c8150837116830e48969f4cc45e8e86df3d4cb07275284e6", checked := Try.checked }
namespace Rows
def none {H : Type} : Left H := { results := [], args := [] }

/-- 'laws.FnExactStrictIn': WHATEVER THE INPUT: true; the input reads as it did. -/
def fnExactStrictInSpec : ChangeSpec := { name := "fnExactStrictIn", fn := fun _ => fun
  | [d1, d2, d3] => { results := [.lit (.bool true)], args := [d1, d2, d3] }
  | _ => none }
def fnExactStrictInRow : OpenClaim := { program := "ytocnkjicmchbdaa", sum := "e33e301fcad1dba5c8150837116830e48969f4cc45e8e86df3d4cb07275284e6", func := "loop.example/graphreducer/laws.FnExactStrictIn", spec := "fnExactStrictIn", unfollowed := true, recurses := true, loops := true, plainKeys := false, apart := false }
def FnExactStrictInSaid : Prop := fnExactStrictInRow.holds Try.pinned (OpenSpec.ofChange fnExactStrictInSpec)

/-- ITS FALSE NEIGHBOUR: 'it returns false'. Refute it at one input. -/
def fnExactStrictInWrong : ChangeSpec := { name := "fnExactStrictIn", fn := fun _ => fun
  | [d1, d2, d3] => { results := [.lit (.bool false)], args := [d1, d2, d3] }
  | _ => none }
def FnExactStrictInWrongFalsely : Prop := fnExactStrictInRow.holds Try.pinned (OpenSpec.ofChange fnExactStrictInWrong)

/-- 'laws.FnExactStrictArgs': WHATEVER THE INPUT: true; the input reads as it did. -/
def fnExactStrictArgsSpec : ChangeSpec := { name := "fnExactStrictArgs", fn := fun _ => fun
  | [d] => { results := [.lit (.bool true)], args := [d] }
  | _ => none }
def fnExactStrictArgsRow : OpenClaim := { program := "ytocnkjicmchbdaa", sum := "e33e301fcad1dba5c8150837116830e48969f4cc45e8e86df3d4cb07275284e6", func := "loop.example/graphreducer/laws.FnExactStrictArgs", spec := "fnExactStrictArgs", unfollowed := true, recurses := true, loops := true, plainKeys := false, apart := false }
def FnExactStrictArgsSaid : Prop := fnExactStrictArgsRow.holds Try.pinned (OpenSpec.ofChange fnExactStrictArgsSpec)

/-- ITS FALSE NEIGHBOUR: 'it returns false'. Refute it at one input. -/
def fnExactStrictArgsWrong : ChangeSpec := { name := "fnExactStrictArgs", fn := fun _ => fun
  | [d] => { results := [.lit (.bool false)], args := [d] }
  | _ => none }
def FnExactStrictArgsWrongFalsely : Prop := fnExactStrictArgsRow.holds Try.pinned (OpenSpec.ofChange fnExactStrictArgsWrong)

/-- 'laws.FnExactNeedHolds': WHATEVER THE INPUT: true; the input reads as it did. -/
def fnExactNeedHoldsSpec : ChangeSpec := { name := "fnExactNeedHolds", fn := fun _ => fun
  | [d1, d2] => { results := [.lit (.bool true)], args := [d1, d2] }
  | _ => none }
def fnExactNeedHoldsRow : OpenClaim := { program := "ytocnkjicmchbdaa", sum := "e33e301fcad1dba5c8150837116830e48969f4cc45e8e86df3d4cb07275284e6", func := "loop.example/graphreducer/laws.FnExactNeedHolds", spec := "fnExactNeedHolds", unfollowed := true, recurses := true, loops := true, plainKeys := false, apart := false }
def FnExactNeedHoldsSaid : Prop := fnExactNeedHoldsRow.holds Try.pinned (OpenSpec.ofChange fnExactNeedHoldsSpec)

/-- ITS FALSE NEIGHBOUR: 'it returns false'. Refute it at one input. -/
def fnExactNeedHoldsWrong : ChangeSpec := { name := "fnExactNeedHolds", fn := fun _ => fun
  | [d1, d2] => { results := [.lit (.bool false)], args := [d1, d2] }
  | _ => none }
def FnExactNeedHoldsWrongFalsely : Prop := fnExactNeedHoldsRow.holds Try.pinned (OpenSpec.ofChange fnExactNeedHoldsWrong)

/-- 'laws.FnExactUnusedArgs': WHATEVER THE INPUT: true; the input reads as it did. -/
def fnExactUnusedArgsSpec : ChangeSpec := { name := "fnExactUnusedArgs", fn := fun _ => fun
  | [d] => { results := [.lit (.bool true)], args := [d] }
  | _ => none }
def fnExactUnusedArgsRow : OpenClaim := { program := "ytocnkjicmchbdaa", sum := "e33e301fcad1dba5c8150837116830e48969f4cc45e8e86df3d4cb07275284e6", func := "loop.example/graphreducer/laws.FnExactUnusedArgs", spec := "fnExactUnusedArgs", unfollowed := true, recurses := true, loops := true, plainKeys := false, apart := false }
def FnExactUnusedArgsSaid : Prop := fnExactUnusedArgsRow.holds Try.pinned (OpenSpec.ofChange fnExactUnusedArgsSpec)

/-- ITS FALSE NEIGHBOUR: 'it returns false'. Refute it at one input. -/
def fnExactUnusedArgsWrong : ChangeSpec := { name := "fnExactUnusedArgs", fn := fun _ => fun
  | [d] => { results := [.lit (.bool false)], args := [d] }
  | _ => none }
def FnExactUnusedArgsWrongFalsely : Prop := fnExactUnusedArgsRow.holds Try.pinned (OpenSpec.ofChange fnExactUnusedArgsWrong)

/-- 'laws.FnExactExecCode': WHATEVER THE INPUT: true; the input reads as it did. -/
def fnExactExecCodeSpec : ChangeSpec := { name := "fnExactExecCode", fn := fun _ => fun
  | [d1, d2, d3, d4] => { results := [.lit (.bool true)], args := [d1, d2, d3, d4] }
  | _ => none }
def fnExactExecCodeRow : OpenClaim := { program := "ytocnkjicmchbdaa", sum := "e33e301fcad1dba5c8150837116830e48969f4cc45e8e86df3d4cb07275284e6", func := "loop.example/graphreducer/laws.FnExactExecCode", spec := "fnExactExecCode", unfollowed := true, recurses := true, plainKeys := false, apart := false }
def FnExactExecCodeSaid : Prop := fnExactExecCodeRow.holds Try.pinned (OpenSpec.ofChange fnExactExecCodeSpec)

/-- ITS FALSE NEIGHBOUR: 'it returns false'. Refute it at one input. -/
def fnExactExecCodeWrong : ChangeSpec := { name := "fnExactExecCode", fn := fun _ => fun
  | [d1, d2, d3, d4] => { results := [.lit (.bool false)], args := [d1, d2, d3, d4] }
  | _ => none }
def FnExactExecCodeWrongFalsely : Prop := fnExactExecCodeRow.holds Try.pinned (OpenSpec.ofChange fnExactExecCodeWrong)

/-- 'laws.FnExactArguments': WHATEVER THE INPUT: true; the input reads as it did. -/
def fnExactArgumentsSpec : ChangeSpec := { name := "fnExactArguments", fn := fun _ => fun
  | [d] => { results := [.lit (.bool true)], args := [d] }
  | _ => none }
def fnExactArgumentsRow : OpenClaim := { program := "ytocnkjicmchbdaa", sum := "e33e301fcad1dba5c8150837116830e48969f4cc45e8e86df3d4cb07275284e6", func := "loop.example/graphreducer/laws.FnExactArguments", spec := "fnExactArguments", unfollowed := true, recurses := true, loops := true, plainKeys := false, apart := false }
def FnExactArgumentsSaid : Prop := fnExactArgumentsRow.holds Try.pinned (OpenSpec.ofChange fnExactArgumentsSpec)

/-- ITS FALSE NEIGHBOUR: 'it returns false'. Refute it at one input. -/
def fnExactArgumentsWrong : ChangeSpec := { name := "fnExactArguments", fn := fun _ => fun
  | [d] => { results := [.lit (.bool false)], args := [d] }
  | _ => none }
def FnExactArgumentsWrongFalsely : Prop := fnExactArgumentsRow.holds Try.pinned (OpenSpec.ofChange fnExactArgumentsWrong)

/- THE SECOND FORM. 'bulk': how many values and letters a reading holds, each counted each time it is reached (what is shared counts as often as it is met; a slice's spare places count too). A statement '..UptoSaid' is the law's where the arguments, and the package variables that the reading takes, are together of bulk at most 1048576: NARROWER than '..Said'. Prove '..Said' where nothing that the law and all that it calls make is longer than what came in: it says more and counts as full. Else prove '..UptoSaid'. A law counts once. -/
mutual
def uptoBulk {H : Type} : DataW H → Nat
  | .lit (.string bytes) => bytes.length + 1
  | .lit _ => 1
  | .nil => 1
  | .ptr d => uptoBulk d + 1
  | .slice elems spare => uptoBulkAll elems + uptoBulkAll spare + 1
  | .agg parts => uptoBulkAll parts + 1
  | .iface _ d => uptoBulk d + 1
  | .map entries => uptoBulkEntries entries + 1
  | .held _ => 1
def uptoBulkAll {H : Type} : List (DataW H) → Nat
  | [] => 0
  | d :: r => uptoBulk d + uptoBulkAll r
def uptoBulkEntries {H : Type} : List (Lit × DataW H) → Nat
  | [] => 0
  | x :: r => uptoBulkEntry x + uptoBulkEntries r
def uptoBulkEntry {H : Type} : Lit × DataW H → Nat
  | (.string bytes, d) => bytes.length + uptoBulk d + 1
  | (_, d) => uptoBulk d + 1
 end
def uptoSmall : (H : Type) → List (DataW H) → Bool := fun _ ds => decide (uptoBulkAll ds ≤ 1048576)
def OpenSpec.upto (s : _root_.Go.ChangeSpec) : _root_.Go.OpenSpec := { _root_.Go.OpenSpec.ofChange s with cond := some uptoSmall }

/-- 'laws.FnExactStrictIn', WHERE WHAT IT READS IS OF BULK AT MOST 1048576: true; the input reads as it did. -/
def fnExactStrictInUptoRow : OpenClaim := { program := "ytocnkjicmchbdaa", sum := "e33e301fcad1dba5c8150837116830e48969f4cc45e8e86df3d4cb07275284e6", func := "loop.example/graphreducer/laws.FnExactStrictIn", spec := "fnExactStrictIn", unfollowed := true, recurses := true, loops := true, plainKeys := false, apart := false, narrowed := true }
def FnExactStrictInUptoSaid : Prop := fnExactStrictInUptoRow.holds Try.pinned (OpenSpec.upto fnExactStrictInSpec)

/-- 'laws.FnExactStrictArgs', WHERE WHAT IT READS IS OF BULK AT MOST 1048576: true; the input reads as it did. -/
def fnExactStrictArgsUptoRow : OpenClaim := { program := "ytocnkjicmchbdaa", sum := "e33e301fcad1dba5c8150837116830e48969f4cc45e8e86df3d4cb07275284e6", func := "loop.example/graphreducer/laws.FnExactStrictArgs", spec := "fnExactStrictArgs", unfollowed := true, recurses := true, loops := true, plainKeys := false, apart := false, narrowed := true }
def FnExactStrictArgsUptoSaid : Prop := fnExactStrictArgsUptoRow.holds Try.pinned (OpenSpec.upto fnExactStrictArgsSpec)

/-- 'laws.FnExactNeedHolds', WHERE WHAT IT READS IS OF BULK AT MOST 1048576: true; the input reads as it did. -/
def fnExactNeedHoldsUptoRow : OpenClaim := { program := "ytocnkjicmchbdaa", sum := "e33e301fcad1dba5c8150837116830e48969f4cc45e8e86df3d4cb07275284e6", func := "loop.example/graphreducer/laws.FnExactNeedHolds", spec := "fnExactNeedHolds", unfollowed := true, recurses := true, loops := true, plainKeys := false, apart := false, narrowed := true }
def FnExactNeedHoldsUptoSaid : Prop := fnExactNeedHoldsUptoRow.holds Try.pinned (OpenSpec.upto fnExactNeedHoldsSpec)

/-- 'laws.FnExactUnusedArgs', WHERE WHAT IT READS IS OF BULK AT MOST 1048576: true; the input reads as it did. -/
def fnExactUnusedArgsUptoRow : OpenClaim := { program := "ytocnkjicmchbdaa", sum := "e33e301fcad1dba5c8150837116830e48969f4cc45e8e86df3d4cb07275284e6", func := "loop.example/graphreducer/laws.FnExactUnusedArgs", spec := "fnExactUnusedArgs", unfollowed := true, recurses := true, loops := true, plainKeys := false, apart := false, narrowed := true }
def FnExactUnusedArgsUptoSaid : Prop := fnExactUnusedArgsUptoRow.holds Try.pinned (OpenSpec.upto fnExactUnusedArgsSpec)

/-- 'laws.FnExactExecCode', WHERE WHAT IT READS IS OF BULK AT MOST 1048576: true; the input reads as it did. -/
def fnExactExecCodeUptoRow : OpenClaim := { program := "ytocnkjicmchbdaa", sum := "e33e301fcad1dba5c8150837116830e48969f4cc45e8e86df3d4cb07275284e6", func := "loop.example/graphreducer/laws.FnExactExecCode", spec := "fnExactExecCode", unfollowed := true, recurses := true, plainKeys := false, apart := false, narrowed := true }
def FnExactExecCodeUptoSaid : Prop := fnExactExecCodeUptoRow.holds Try.pinned (OpenSpec.upto fnExactExecCodeSpec)

/-- 'laws.FnExactArguments', WHERE WHAT IT READS IS OF BULK AT MOST 1048576: true; the input reads as it did. -/
def fnExactArgumentsUptoRow : OpenClaim := { program := "ytocnkjicmchbdaa", sum := "e33e301fcad1dba5c8150837116830e48969f4cc45e8e86df3d4cb07275284e6", func := "loop.example/graphreducer/laws.FnExactArguments", spec := "fnExactArguments", unfollowed := true, recurses := true, loops := true, plainKeys := false, apart := false, narrowed := true }
def FnExactArgumentsUptoSaid : Prop := fnExactArgumentsUptoRow.holds Try.pinned (OpenSpec.upto fnExactArgumentsSpec)

end Rows
end Go.Proofs.Ytocnkjicmchbdaa

/-
  No cell of these rows narrows 'for every input' (looked for: loops, veiled, ifaces, maps, wideKeys, modest, calm, conditions, laid).
  DERIVED. THE GIVEN ROWS OF THIS SEAT. 11 by the template 'for every input the law returns true; each argument reads behind the call as it read before'; 0 by the template 'total and deterministic' (their statements: YtglpehelmlehiaaTotals.lean).
  GIVEN WITH THE SEED: the statements are not yours to turn. If you find one false, say at which input.
  Laid BY PROGRAM, IN A SANDBOX (cutbox-rows.mjs): the forced cells as the released guide's own fill.sh prints them over the translation 66c0275c0e21cb74… (all of the seat's roots in one cut). By AI agents, Wed Nov 11 2026. No macro, syntax, notation, axiom, sorry.
-/
import Derived.Test.YtglpehelmlehiaaChecked
import GoSem.Claim
import GoSem.ClaimJoined
import GoSem.ClaimMapViews
import Derived.JoinedTies
import Derived.KernelRfl
namespace Go.Proofs.Ytglpehelmlehiaa
/- THE CELL 'sum', in the pinned program and in every row, IS THE sha256 OF THE DUMP (.gsa) THAT YtglpehelmlehiaaProg.lean LOADS. Nothing in Lean hashes anything: it is a label: what it is worth is what the hold of that sum in a sandbox is worth. -/
noncomputable def Try.pinned : Pinned := { name := "ytglpehelmlehiaa", sum := "66c0275c0e21cb74d9be2b37df0dff504f4f3e32bcc53afb7c58b5754a477c87", checked := Try.checked }
namespace Rows
def none {H : Type} : Left H := { results := [], args := [] }

/-- 'laws.FnValueCells': WHATEVER THE INPUT: true; the input reads as it did. -/
def fnValueCellsSpec : ChangeSpec := { name := "fnValueCells", fn := fun _ => fun
  | [d] => { results := [.lit (.bool true)], args := [d] }
  | _ => none }
def fnValueCellsRow : OpenClaim := { program := "ytglpehelmlehiaa", sum := "66c0275c0e21cb74d9be2b37df0dff504f4f3e32bcc53afb7c58b5754a477c87", func := "loop.example/graphreducer/laws.FnValueCells", spec := "fnValueCells", unfollowed := true, recurses := true, plainKeys := false, apart := false }
def FnValueCellsSaid : Prop := fnValueCellsRow.holds Try.pinned (OpenSpec.ofChange fnValueCellsSpec)

/-- ITS FALSE NEIGHBOUR: 'it returns false'. Refute it at one input. -/
def fnValueCellsWrong : ChangeSpec := { name := "fnValueCells", fn := fun _ => fun
  | [d] => { results := [.lit (.bool false)], args := [d] }
  | _ => none }
def FnValueCellsWrongFalsely : Prop := fnValueCellsRow.holds Try.pinned (OpenSpec.ofChange fnValueCellsWrong)

/-- 'laws.FnCopyOrder': WHATEVER THE INPUT: true; the input reads as it did. -/
def fnCopyOrderSpec : ChangeSpec := { name := "fnCopyOrder", fn := fun _ => fun
  | [d] => { results := [.lit (.bool true)], args := [d] }
  | _ => none }
def fnCopyOrderRow : OpenClaim := { program := "ytglpehelmlehiaa", sum := "66c0275c0e21cb74d9be2b37df0dff504f4f3e32bcc53afb7c58b5754a477c87", func := "loop.example/graphreducer/laws.FnCopyOrder", spec := "fnCopyOrder", unfollowed := true, recurses := true, plainKeys := false, apart := false }
def FnCopyOrderSaid : Prop := fnCopyOrderRow.holds Try.pinned (OpenSpec.ofChange fnCopyOrderSpec)

/-- ITS FALSE NEIGHBOUR: 'it returns false'. Refute it at one input. -/
def fnCopyOrderWrong : ChangeSpec := { name := "fnCopyOrder", fn := fun _ => fun
  | [d] => { results := [.lit (.bool false)], args := [d] }
  | _ => none }
def FnCopyOrderWrongFalsely : Prop := fnCopyOrderRow.holds Try.pinned (OpenSpec.ofChange fnCopyOrderWrong)

/-- 'laws.FnFewerRoots': WHATEVER THE INPUT: true; the input reads as it did. -/
def fnFewerRootsSpec : ChangeSpec := { name := "fnFewerRoots", fn := fun _ => fun
  | [d] => { results := [.lit (.bool true)], args := [d] }
  | _ => none }
def fnFewerRootsRow : OpenClaim := { program := "ytglpehelmlehiaa", sum := "66c0275c0e21cb74d9be2b37df0dff504f4f3e32bcc53afb7c58b5754a477c87", func := "loop.example/graphreducer/laws.FnFewerRoots", spec := "fnFewerRoots", unfollowed := true, recurses := true, plainKeys := false, apart := false }
def FnFewerRootsSaid : Prop := fnFewerRootsRow.holds Try.pinned (OpenSpec.ofChange fnFewerRootsSpec)

/-- ITS FALSE NEIGHBOUR: 'it returns false'. Refute it at one input. -/
def fnFewerRootsWrong : ChangeSpec := { name := "fnFewerRoots", fn := fun _ => fun
  | [d] => { results := [.lit (.bool false)], args := [d] }
  | _ => none }
def FnFewerRootsWrongFalsely : Prop := fnFewerRootsRow.holds Try.pinned (OpenSpec.ofChange fnFewerRootsWrong)

/-- 'laws.FnLiveCells': WHATEVER THE INPUT: true; the input reads as it did. -/
def fnLiveCellsSpec : ChangeSpec := { name := "fnLiveCells", fn := fun _ => fun
  | [d] => { results := [.lit (.bool true)], args := [d] }
  | _ => none }
def fnLiveCellsRow : OpenClaim := { program := "ytglpehelmlehiaa", sum := "66c0275c0e21cb74d9be2b37df0dff504f4f3e32bcc53afb7c58b5754a477c87", func := "loop.example/graphreducer/laws.FnLiveCells", spec := "fnLiveCells", unfollowed := true, recurses := true, plainKeys := false, apart := false }
def FnLiveCellsSaid : Prop := fnLiveCellsRow.holds Try.pinned (OpenSpec.ofChange fnLiveCellsSpec)

/-- ITS FALSE NEIGHBOUR: 'it returns false'. Refute it at one input. -/
def fnLiveCellsWrong : ChangeSpec := { name := "fnLiveCells", fn := fun _ => fun
  | [d] => { results := [.lit (.bool false)], args := [d] }
  | _ => none }
def FnLiveCellsWrongFalsely : Prop := fnLiveCellsRow.holds Try.pinned (OpenSpec.ofChange fnLiveCellsWrong)

/-- 'laws.FnCollectTwice': WHATEVER THE INPUT: true; the input reads as it did. -/
def fnCollectTwiceSpec : ChangeSpec := { name := "fnCollectTwice", fn := fun _ => fun
  | [d] => { results := [.lit (.bool true)], args := [d] }
  | _ => none }
def fnCollectTwiceRow : OpenClaim := { program := "ytglpehelmlehiaa", sum := "66c0275c0e21cb74d9be2b37df0dff504f4f3e32bcc53afb7c58b5754a477c87", func := "loop.example/graphreducer/laws.FnCollectTwice", spec := "fnCollectTwice", unfollowed := true, recurses := true, plainKeys := false, apart := false }
def FnCollectTwiceSaid : Prop := fnCollectTwiceRow.holds Try.pinned (OpenSpec.ofChange fnCollectTwiceSpec)

/-- ITS FALSE NEIGHBOUR: 'it returns false'. Refute it at one input. -/
def fnCollectTwiceWrong : ChangeSpec := { name := "fnCollectTwice", fn := fun _ => fun
  | [d] => { results := [.lit (.bool false)], args := [d] }
  | _ => none }
def FnCollectTwiceWrongFalsely : Prop := fnCollectTwiceRow.holds Try.pinned (OpenSpec.ofChange fnCollectTwiceWrong)

/-- 'laws.FnSelectTwice': WHATEVER THE INPUT: true; the input reads as it did. -/
def fnSelectTwiceSpec : ChangeSpec := { name := "fnSelectTwice", fn := fun _ => fun
  | [d] => { results := [.lit (.bool true)], args := [d] }
  | _ => none }
def fnSelectTwiceRow : OpenClaim := { program := "ytglpehelmlehiaa", sum := "66c0275c0e21cb74d9be2b37df0dff504f4f3e32bcc53afb7c58b5754a477c87", func := "loop.example/graphreducer/laws.FnSelectTwice", spec := "fnSelectTwice", unfollowed := true, recurses := true, plainKeys := false, apart := false }
def FnSelectTwiceSaid : Prop := fnSelectTwiceRow.holds Try.pinned (OpenSpec.ofChange fnSelectTwiceSpec)

/-- ITS FALSE NEIGHBOUR: 'it returns false'. Refute it at one input. -/
def fnSelectTwiceWrong : ChangeSpec := { name := "fnSelectTwice", fn := fun _ => fun
  | [d] => { results := [.lit (.bool false)], args := [d] }
  | _ => none }
def FnSelectTwiceWrongFalsely : Prop := fnSelectTwiceRow.holds Try.pinned (OpenSpec.ofChange fnSelectTwiceWrong)

/-- 'laws.FnSelectAll': WHATEVER THE INPUT: true; the input reads as it did. -/
def fnSelectAllSpec : ChangeSpec := { name := "fnSelectAll", fn := fun _ => fun
  | [d] => { results := [.lit (.bool true)], args := [d] }
  | _ => none }
def fnSelectAllRow : OpenClaim := { program := "ytglpehelmlehiaa", sum := "66c0275c0e21cb74d9be2b37df0dff504f4f3e32bcc53afb7c58b5754a477c87", func := "loop.example/graphreducer/laws.FnSelectAll", spec := "fnSelectAll", unfollowed := true, recurses := true, plainKeys := false, apart := false }
def FnSelectAllSaid : Prop := fnSelectAllRow.holds Try.pinned (OpenSpec.ofChange fnSelectAllSpec)

/-- ITS FALSE NEIGHBOUR: 'it returns false'. Refute it at one input. -/
def fnSelectAllWrong : ChangeSpec := { name := "fnSelectAll", fn := fun _ => fun
  | [d] => { results := [.lit (.bool false)], args := [d] }
  | _ => none }
def FnSelectAllWrongFalsely : Prop := fnSelectAllRow.holds Try.pinned (OpenSpec.ofChange fnSelectAllWrong)

/-- 'laws.FnCopyGraph': WHATEVER THE INPUT: true; the input reads as it did. -/
def fnCopyGraphSpec : ChangeSpec := { name := "fnCopyGraph", fn := fun _ => fun
  | [d] => { results := [.lit (.bool true)], args := [d] }
  | _ => none }
def fnCopyGraphRow : OpenClaim := { program := "ytglpehelmlehiaa", sum := "66c0275c0e21cb74d9be2b37df0dff504f4f3e32bcc53afb7c58b5754a477c87", func := "loop.example/graphreducer/laws.FnCopyGraph", spec := "fnCopyGraph", unfollowed := true, recurses := true, plainKeys := false, apart := false }
def FnCopyGraphSaid : Prop := fnCopyGraphRow.holds Try.pinned (OpenSpec.ofChange fnCopyGraphSpec)

/-- ITS FALSE NEIGHBOUR: 'it returns false'. Refute it at one input. -/
def fnCopyGraphWrong : ChangeSpec := { name := "fnCopyGraph", fn := fun _ => fun
  | [d] => { results := [.lit (.bool false)], args := [d] }
  | _ => none }
def FnCopyGraphWrongFalsely : Prop := fnCopyGraphRow.holds Try.pinned (OpenSpec.ofChange fnCopyGraphWrong)

/-- 'laws.FnSameFrom': WHATEVER THE INPUT: true; the input reads as it did. -/
def fnSameFromSpec : ChangeSpec := { name := "fnSameFrom", fn := fun _ => fun
  | [d] => { results := [.lit (.bool true)], args := [d] }
  | _ => none }
def fnSameFromRow : OpenClaim := { program := "ytglpehelmlehiaa", sum := "66c0275c0e21cb74d9be2b37df0dff504f4f3e32bcc53afb7c58b5754a477c87", func := "loop.example/graphreducer/laws.FnSameFrom", spec := "fnSameFrom", unfollowed := true, recurses := true, plainKeys := false, apart := false }
def FnSameFromSaid : Prop := fnSameFromRow.holds Try.pinned (OpenSpec.ofChange fnSameFromSpec)

/-- ITS FALSE NEIGHBOUR: 'it returns false'. Refute it at one input. -/
def fnSameFromWrong : ChangeSpec := { name := "fnSameFrom", fn := fun _ => fun
  | [d] => { results := [.lit (.bool false)], args := [d] }
  | _ => none }
def FnSameFromWrongFalsely : Prop := fnSameFromRow.holds Try.pinned (OpenSpec.ofChange fnSameFromWrong)

/-- 'laws.FnTidyGraph': WHATEVER THE INPUT: true; the input reads as it did. -/
def fnTidyGraphSpec : ChangeSpec := { name := "fnTidyGraph", fn := fun _ => fun
  | [d] => { results := [.lit (.bool true)], args := [d] }
  | _ => none }
def fnTidyGraphRow : OpenClaim := { program := "ytglpehelmlehiaa", sum := "66c0275c0e21cb74d9be2b37df0dff504f4f3e32bcc53afb7c58b5754a477c87", func := "loop.example/graphreducer/laws.FnTidyGraph", spec := "fnTidyGraph", unfollowed := true, recurses := true, plainKeys := false, apart := false }
def FnTidyGraphSaid : Prop := fnTidyGraphRow.holds Try.pinned (OpenSpec.ofChange fnTidyGraphSpec)

/-- ITS FALSE NEIGHBOUR: 'it returns false'. Refute it at one input. -/
def fnTidyGraphWrong : ChangeSpec := { name := "fnTidyGraph", fn := fun _ => fun
  | [d] => { results := [.lit (.bool false)], args := [d] }
  | _ => none }
def FnTidyGraphWrongFalsely : Prop := fnTidyGraphRow.holds Try.pinned (OpenSpec.ofChange fnTidyGraphWrong)

/-- 'laws.FnCollectGraph': WHATEVER THE INPUT: true; the input reads as it did. -/
def fnCollectGraphSpec : ChangeSpec := { name := "fnCollectGraph", fn := fun _ => fun
  | [d] => { results := [.lit (.bool true)], args := [d] }
  | _ => none }
def fnCollectGraphRow : OpenClaim := { program := "ytglpehelmlehiaa", sum := "66c0275c0e21cb74d9be2b37df0dff504f4f3e32bcc53afb7c58b5754a477c87", func := "loop.example/graphreducer/laws.FnCollectGraph", spec := "fnCollectGraph", unfollowed := true, recurses := true, plainKeys := false, apart := false }
def FnCollectGraphSaid : Prop := fnCollectGraphRow.holds Try.pinned (OpenSpec.ofChange fnCollectGraphSpec)

/-- ITS FALSE NEIGHBOUR: 'it returns false'. Refute it at one input. -/
def fnCollectGraphWrong : ChangeSpec := { name := "fnCollectGraph", fn := fun _ => fun
  | [d] => { results := [.lit (.bool false)], args := [d] }
  | _ => none }
def FnCollectGraphWrongFalsely : Prop := fnCollectGraphRow.holds Try.pinned (OpenSpec.ofChange fnCollectGraphWrong)

/- THE SECOND FORM. 'bulk': how many values and letters a reading holds, each counted each time it is reached (what is shared counts as often as it is met; a slice's spare places count too). A statement '..UptoSaid' is the law's where the arguments, and the package variables that the reading takes, are together of bulk at most 1048576: NARROWER than '..Said'. Prove '..Said' where nothing that the law and all that it calls make is longer than what came in: it says more and counts as full. Else prove '..UptoSaid'. A law counts once. -/
mutual
def uptoBulk {H : Type} : DataW H → Nat
  | .lit (.string bytes) => bytes.length + 1
  | .lit _ => 1
  | .nil => 1
  | .ptr d => uptoBulk d + 1
  | .slice elems spare => uptoBulkAll elems + uptoBulkAll spare + 1
  | .agg parts => uptoBulkAll parts + 1
  | .iface _ d => uptoBulk d + 1
  | .map entries => uptoBulkEntries entries + 1
  | .held _ => 1
def uptoBulkAll {H : Type} : List (DataW H) → Nat
  | [] => 0
  | d :: r => uptoBulk d + uptoBulkAll r
def uptoBulkEntries {H : Type} : List (Lit × DataW H) → Nat
  | [] => 0
  | x :: r => uptoBulkEntry x + uptoBulkEntries r
def uptoBulkEntry {H : Type} : Lit × DataW H → Nat
  | (.string bytes, d) => bytes.length + uptoBulk d + 1
  | (_, d) => uptoBulk d + 1
 end
def uptoSmall : (H : Type) → List (DataW H) → Bool := fun _ ds => decide (uptoBulkAll ds ≤ 1048576)
def OpenSpec.upto (s : _root_.Go.ChangeSpec) : _root_.Go.OpenSpec := { _root_.Go.OpenSpec.ofChange s with cond := some uptoSmall }

/-- 'laws.FnValueCells', WHERE WHAT IT READS IS OF BULK AT MOST 1048576: true; the input reads as it did. -/
def fnValueCellsUptoRow : OpenClaim := { program := "ytglpehelmlehiaa", sum := "66c0275c0e21cb74d9be2b37df0dff504f4f3e32bcc53afb7c58b5754a477c87", func := "loop.example/graphreducer/laws.FnValueCells", spec := "fnValueCells", unfollowed := true, recurses := true, plainKeys := false, apart := false, narrowed := true }
def FnValueCellsUptoSaid : Prop := fnValueCellsUptoRow.holds Try.pinned (OpenSpec.upto fnValueCellsSpec)

/-- 'laws.FnCopyOrder', WHERE WHAT IT READS IS OF BULK AT MOST 1048576: true; the input reads as it did. -/
def fnCopyOrderUptoRow : OpenClaim := { program := "ytglpehelmlehiaa", sum := "66c0275c0e21cb74d9be2b37df0dff504f4f3e32bcc53afb7c58b5754a477c87", func := "loop.example/graphreducer/laws.FnCopyOrder", spec := "fnCopyOrder", unfollowed := true, recurses := true, plainKeys := false, apart := false, narrowed := true }
def FnCopyOrderUptoSaid : Prop := fnCopyOrderUptoRow.holds Try.pinned (OpenSpec.upto fnCopyOrderSpec)

/-- 'laws.FnFewerRoots', WHERE WHAT IT READS IS OF BULK AT MOST 1048576: true; the input reads as it did. -/
def fnFewerRootsUptoRow : OpenClaim := { program := "ytglpehelmlehiaa", sum := "66c0275c0e21cb74d9be2b37df0dff504f4f3e32bcc53afb7c58b5754a477c87", func := "loop.example/graphreducer/laws.FnFewerRoots", spec := "fnFewerRoots", unfollowed := true, recurses := true, plainKeys := false, apart := false, narrowed := true }
def FnFewerRootsUptoSaid : Prop := fnFewerRootsUptoRow.holds Try.pinned (OpenSpec.upto fnFewerRootsSpec)

/-- 'laws.FnLiveCells', WHERE WHAT IT READS IS OF BULK AT MOST 1048576: true; the input reads as it did. -/
def fnLiveCellsUptoRow : OpenClaim := { program := "ytglpehelmlehiaa", sum := "66c0275c0e21cb74d9be2b37df0dff504f4f3e32bcc53afb7c58b5754a477c87", func := "loop.example/graphreducer/laws.FnLiveCells", spec := "fnLiveCells", unfollowed := true, recurses := true, plainKeys := false, apart := false, narrowed := true }
def FnLiveCellsUptoSaid : Prop := fnLiveCellsUptoRow.holds Try.pinned (OpenSpec.upto fnLiveCellsSpec)

/-- 'laws.FnCollectTwice', WHERE WHAT IT READS IS OF BULK AT MOST 1048576: true; the input reads as it did. -/
def fnCollectTwiceUptoRow : OpenClaim := { program := "ytglpehelmlehiaa", sum := "66c0275c0e21cb74d9be2b37df0dff504f4f3e32bcc53afb7c58b5754a477c87", func := "loop.example/graphreducer/laws.FnCollectTwice", spec := "fnCollectTwice", unfollowed := true, recurses := true, plainKeys := false, apart := false, narrowed := true }
def FnCollectTwiceUptoSaid : Prop := fnCollectTwiceUptoRow.holds Try.pinned (OpenSpec.upto fnCollectTwiceSpec)

/-- 'laws.FnSelectTwice', WHERE WHAT IT READS IS OF BULK AT MOST 1048576: true; the input reads as it did. -/
def fnSelectTwiceUptoRow : OpenClaim := { program := "ytglpehelmlehiaa", sum := "66c0275c0e21cb74d9be2b37df0dff504f4f3e32bcc53afb7c58b5754a477c87", func := "loop.example/graphreducer/laws.FnSelectTwice", spec := "fnSelectTwice", unfollowed := true, recurses := true, plainKeys := false, apart := false, narrowed := true }
def FnSelectTwiceUptoSaid : Prop := fnSelectTwiceUptoRow.holds Try.pinned (OpenSpec.upto fnSelectTwiceSpec)

/-- 'laws.FnSelectAll', WHERE WHAT IT READS IS OF BULK AT MOST 1048576: true; the input reads as it did. -/
def fnSelectAllUptoRow : OpenClaim := { program := "ytglpehelmlehiaa", sum := "66c0275c0e21cb74d9be2b37df0dff504f4f3e32bcc53afb7c58b5754a477c87", func := "loop.example/graphreducer/laws.FnSelectAll", spec := "fnSelectAll", unfollowed := true, recurses := true, plainKeys := false, apart := false, narrowed := true }
def FnSelectAllUptoSaid : Prop := fnSelectAllUptoRow.holds Try.pinned (OpenSpec.upto fnSelectAllSpec)

/-- 'laws.FnCopyGraph', WHERE WHAT IT READS IS OF BULK AT MOST 1048576: true; the input reads as it did. -/
def fnCopyGraphUptoRow : OpenClaim := { program := "ytglpehelmlehiaa", sum := "66c0275c0e21cb74d9be2b37df0dff504f4f3e32bcc53afb7c58b5754a477c87", func := "loop.example/graphreducer/laws.FnCopyGraph", spec := "fnCopyGraph", unfollowed := true, recurses := true, plainKeys := false, apart := false, narrowed := true }
def FnCopyGraphUptoSaid : Prop := fnCopyGraphUptoRow.holds Try.pinned (OpenSpec.upto fnCopyGraphSpec)

/-- 'laws.FnSameFrom', WHERE WHAT IT READS IS OF BULK AT MOST 1048576: true; the input reads as it did. -/
def fnSameFromUptoRow : OpenClaim := { program := "ytglpehelmlehiaa", sum := "66c0275c0e21cb74d9be2b37df0dff504f4f3e32bcc53afb7c58b5754a477c87", func := "loop.example/graphreducer/laws.FnSameFrom", spec := "fnSameFrom", unfollowed := true, recurses := true, plainKeys := false, apart := false, narrowed := true }
def FnSameFromUptoSaid : Prop := fnSameFromUptoRow.holds Try.pinned (OpenSpec.upto fnSameFromSpec)

/-- 'laws.FnTidyGraph', WHERE WHAT IT READS IS OF BULK AT MOST 1048576: true; the input reads as it did. -/
def fnTidyGraphUptoRow : OpenClaim := { program := "ytglpehelmlehiaa", sum := "66c0275c0e21cb74d9be2b37df0dff504f4f3e32bcc53afb7c58b5754a477c87", func := "loop.example/graphreducer/laws.FnTidyGraph", spec := "fnTidyGraph", unfollowed := true, recurses := true, plainKeys := false, apart := false, narrowed := true }
def FnTidyGraphUptoSaid : Prop := fnTidyGraphUptoRow.holds Try.pinned (OpenSpec.upto fnTidyGraphSpec)

/-- 'laws.FnCollectGraph', WHERE WHAT IT READS IS OF BULK AT MOST 1048576: true; the input reads as it did. -/
def fnCollectGraphUptoRow : OpenClaim := { program := "ytglpehelmlehiaa", sum := "66c0275c0e21cb74d9be2b37df0dff504f4f3e32bcc53afb7c58b5754a477c87", func := "loop.example/graphreducer/laws.FnCollectGraph", spec := "fnCollectGraph", unfollowed := true, recurses := true, plainKeys := false, apart := false, narrowed := true }
def FnCollectGraphUptoSaid : Prop := fnCollectGraphUptoRow.holds Try.pinned (OpenSpec.upto fnCollectGraphSpec)

end Rows
end Go.Proofs.Ytglpehelmlehiaa

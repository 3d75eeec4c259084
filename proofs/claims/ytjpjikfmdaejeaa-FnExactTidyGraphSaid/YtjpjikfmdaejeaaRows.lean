/-
  No cell of these rows narrows 'for every input' (looked for: loops, veiled, ifaces, maps, wideKeys, modest, calm, conditions, laid).
  DERIVED. THE GIVEN ROWS OF THIS SEAT. 5 by the template 'for every input the law returns true; each argument reads behind the call as it read before'; 0 by the template 'total and deterministic' (their statements: YtjpjikfmdaejeaaTotals.lean).
  GIVEN WITH THE SEED: the statements are not yours to turn. If you find one false, say at which input.
  Laid BY PROGRAM, IN A SANDBOX (cutbox-rows.mjs): the forced cells as the released guide's own fill.sh prints them over the translation 7874bc5cf13a55ef… (all of the seat's roots in one cut). By AI agents, Wed Nov 11 2026. No macro, syntax, notation, axiom, sorry.
-/
import Derived.Test.YtjpjikfmdaejeaaChecked
import GoSem.Claim
import GoSem.ClaimJoined
import GoSem.ClaimMapViews
import Derived.JoinedTies
import Derived.KernelRfl
namespace Go.Proofs.Ytjpjikfmdaejeaa
/- THE CELL 'sum', in the pinned program and in every row, IS THE sha256 OF THE DUMP (.gsa) THAT YtjpjikfmdaejeaaProg.lean LOADS. Nothing in Lean hashes anything: it is a label: what it is worth is what the hold of that sum in a sandbox is worth. -/
noncomputable def Try.pinned : Pinned := { name := "ytjpjikfmdaejeaa", sum := "7874bc5cf13a55efe6c04d600dc6c0ccd4ede75940d9c3af43806caf47292a99", checked := Try.checked }
namespace Rows
def none {H : Type} : Left H := { results := [], args := [] }

/-- 'laws.FnExactCopyGraph': WHATEVER THE INPUT: true; the input reads as it did. -/
def fnExactCopyGraphSpec : ChangeSpec := { name := "fnExactCopyGraph", fn := fun _ => fun
  | [d1, d2] => { results := [.lit (.bool true)], args := [d1, d2] }
  | _ => none }
def fnExactCopyGraphRow : OpenClaim := { program := "ytjpjikfmdaejeaa", sum := "7874bc5cf13a55efe6c04d600dc6c0ccd4ede75940d9c3af43806caf47292a99", func := "loop.example/graphreducer/laws.FnExactCopyGraph", spec := "fnExactCopyGraph", unfollowed := true, recurses := true, apart := false }
def FnExactCopyGraphSaid : Prop := fnExactCopyGraphRow.holds Try.pinned (OpenSpec.ofChange fnExactCopyGraphSpec)

/-- ITS FALSE NEIGHBOUR: 'it returns false'. Refute it at one input. -/
def fnExactCopyGraphWrong : ChangeSpec := { name := "fnExactCopyGraph", fn := fun _ => fun
  | [d1, d2] => { results := [.lit (.bool false)], args := [d1, d2] }
  | _ => none }
def FnExactCopyGraphWrongFalsely : Prop := fnExactCopyGraphRow.holds Try.pinned (OpenSpec.ofChange fnExactCopyGraphWrong)

/-- 'laws.FnExactCopyOrder': WHATEVER THE INPUT: true; the input reads as it did. -/
def fnExactCopyOrderSpec : ChangeSpec := { name := "fnExactCopyOrder", fn := fun _ => fun
  | [d1, d2] => { results := [.lit (.bool true)], args := [d1, d2] }
  | _ => none }
def fnExactCopyOrderRow : OpenClaim := { program := "ytjpjikfmdaejeaa", sum := "7874bc5cf13a55efe6c04d600dc6c0ccd4ede75940d9c3af43806caf47292a99", func := "loop.example/graphreducer/laws.FnExactCopyOrder", spec := "fnExactCopyOrder", unfollowed := true, recurses := true, apart := false }
def FnExactCopyOrderSaid : Prop := fnExactCopyOrderRow.holds Try.pinned (OpenSpec.ofChange fnExactCopyOrderSpec)

/-- ITS FALSE NEIGHBOUR: 'it returns false'. Refute it at one input. -/
def fnExactCopyOrderWrong : ChangeSpec := { name := "fnExactCopyOrder", fn := fun _ => fun
  | [d1, d2] => { results := [.lit (.bool false)], args := [d1, d2] }
  | _ => none }
def FnExactCopyOrderWrongFalsely : Prop := fnExactCopyOrderRow.holds Try.pinned (OpenSpec.ofChange fnExactCopyOrderWrong)

/-- 'laws.FnExactCollectGraph': WHATEVER THE INPUT: true; the input reads as it did. -/
def fnExactCollectGraphSpec : ChangeSpec := { name := "fnExactCollectGraph", fn := fun _ => fun
  | [d1, d2] => { results := [.lit (.bool true)], args := [d1, d2] }
  | _ => none }
def fnExactCollectGraphRow : OpenClaim := { program := "ytjpjikfmdaejeaa", sum := "7874bc5cf13a55efe6c04d600dc6c0ccd4ede75940d9c3af43806caf47292a99", func := "loop.example/graphreducer/laws.FnExactCollectGraph", spec := "fnExactCollectGraph", unfollowed := true, recurses := true, apart := false }
def FnExactCollectGraphSaid : Prop := fnExactCollectGraphRow.holds Try.pinned (OpenSpec.ofChange fnExactCollectGraphSpec)

/-- ITS FALSE NEIGHBOUR: 'it returns false'. Refute it at one input. -/
def fnExactCollectGraphWrong : ChangeSpec := { name := "fnExactCollectGraph", fn := fun _ => fun
  | [d1, d2] => { results := [.lit (.bool false)], args := [d1, d2] }
  | _ => none }
def FnExactCollectGraphWrongFalsely : Prop := fnExactCollectGraphRow.holds Try.pinned (OpenSpec.ofChange fnExactCollectGraphWrong)

/-- 'laws.FnExactSelectGraph': WHATEVER THE INPUT: true; the input reads as it did. -/
def fnExactSelectGraphSpec : ChangeSpec := { name := "fnExactSelectGraph", fn := fun _ => fun
  | [d] => { results := [.lit (.bool true)], args := [d] }
  | _ => none }
def fnExactSelectGraphRow : OpenClaim := { program := "ytjpjikfmdaejeaa", sum := "7874bc5cf13a55efe6c04d600dc6c0ccd4ede75940d9c3af43806caf47292a99", func := "loop.example/graphreducer/laws.FnExactSelectGraph", spec := "fnExactSelectGraph", unfollowed := true, recurses := true, apart := false }
def FnExactSelectGraphSaid : Prop := fnExactSelectGraphRow.holds Try.pinned (OpenSpec.ofChange fnExactSelectGraphSpec)

/-- ITS FALSE NEIGHBOUR: 'it returns false'. Refute it at one input. -/
def fnExactSelectGraphWrong : ChangeSpec := { name := "fnExactSelectGraph", fn := fun _ => fun
  | [d] => { results := [.lit (.bool false)], args := [d] }
  | _ => none }
def FnExactSelectGraphWrongFalsely : Prop := fnExactSelectGraphRow.holds Try.pinned (OpenSpec.ofChange fnExactSelectGraphWrong)

/-- 'laws.FnExactTidyGraph': WHATEVER THE INPUT: true; the input reads as it did. -/
def fnExactTidyGraphSpec : ChangeSpec := { name := "fnExactTidyGraph", fn := fun _ => fun
  | [d1, d2] => { results := [.lit (.bool true)], args := [d1, d2] }
  | _ => none }
def fnExactTidyGraphRow : OpenClaim := { program := "ytjpjikfmdaejeaa", sum := "7874bc5cf13a55efe6c04d600dc6c0ccd4ede75940d9c3af43806caf47292a99", func := "loop.example/graphreducer/laws.FnExactTidyGraph", spec := "fnExactTidyGraph", unfollowed := true, recurses := true, apart := false }
def FnExactTidyGraphSaid : Prop := fnExactTidyGraphRow.holds Try.pinned (OpenSpec.ofChange fnExactTidyGraphSpec)

/-- ITS FALSE NEIGHBOUR: 'it returns false'. Refute it at one input. -/
def fnExactTidyGraphWrong : ChangeSpec := { name := "fnExactTidyGraph", fn := fun _ => fun
  | [d1, d2] => { results := [.lit (.bool false)], args := [d1, d2] }
  | _ => none }
def FnExactTidyGraphWrongFalsely : Prop := fnExactTidyGraphRow.holds Try.pinned (OpenSpec.ofChange fnExactTidyGraphWrong)

/- THE SECOND FORM. 'bulk': how many values and letters a reading holds, each counted each time it is reached (what is shared counts as often as it is met; a slice's spare places count too). A statement '..UptoSaid' is the law's where the arguments, and the package variables that the reading takes, are together of bulk at most 1048576: NARROWER than '..Said'. Prove '..Said' where nothing that the law and all that it calls make is longer than what came in: it says more and counts as full. Else prove '..UptoSaid'. A law counts once. -/
mutual
def uptoBulk {H : Type} : DataW H → Nat
  | .lit (.string bytes) => bytes.length + 1
  | .lit _ => 1
  | .nil => 1
  | .ptr d => uptoBulk d + 1
  | .slice elems spare => uptoBulkAll elems + uptoBulkAll spare + 1
  | .agg parts => uptoBulkAll parts + 1
  | .iface _ d => uptoBulk d + 1
  | .map entries => uptoBulkEntries entries + 1
  | .held _ => 1
def uptoBulkAll {H : Type} : List (DataW H) → Nat
  | [] => 0
  | d :: r => uptoBulk d + uptoBulkAll r
def uptoBulkEntries {H : Type} : List (Lit × DataW H) → Nat
  | [] => 0
  | x :: r => uptoBulkEntry x + uptoBulkEntries r
def uptoBulkEntry {H : Type} : Lit × DataW H → Nat
  | (.string bytes, d) => bytes.length + uptoBulk d + 1
  | (_, d) => uptoBulk d + 1
 end
def uptoSmall : (H : Type) → List (DataW H) → Bool := fun _ ds => decide (uptoBulkAll ds ≤ 1048576)
def OpenSpec.upto (s : _root_.Go.ChangeSpec) : _root_.Go.OpenSpec := { _root_.Go.OpenSpec.ofChange s with cond := some uptoSmall }

/-- 'laws.FnExactCopyGraph', WHERE WHAT IT READS IS OF BULK AT MOST 1048576: true; the input reads as it did. -/
def fnExactCopyGraphUptoRow : OpenClaim := { program := "ytjpjikfmdaejeaa", sum := "7874bc5cf13a55efe6c04d600dc6c0ccd4ede75940d9c3af43806caf47292a99", func := "loop.example/graphreducer/laws.FnExactCopyGraph", spec := "fnExactCopyGraph", unfollowed := true, recurses := true, apart := false, narrowed := true }
def FnExactCopyGraphUptoSaid : Prop := fnExactCopyGraphUptoRow.holds Try.pinned (OpenSpec.upto fnExactCopyGraphSpec)

/-- 'laws.FnExactCopyOrder', WHERE WHAT IT READS IS OF BULK AT MOST 1048576: true; the input reads as it did. -/
def fnExactCopyOrderUptoRow : OpenClaim := { program := "ytjpjikfmdaejeaa", sum := "7874bc5cf13a55efe6c04d600dc6c0ccd4ede75940d9c3af43806caf47292a99", func := "loop.example/graphreducer/laws.FnExactCopyOrder", spec := "fnExactCopyOrder", unfollowed := true, recurses := true, apart := false, narrowed := true }
def FnExactCopyOrderUptoSaid : Prop := fnExactCopyOrderUptoRow.holds Try.pinned (OpenSpec.upto fnExactCopyOrderSpec)

/-- 'laws.FnExactCollectGraph', WHERE WHAT IT READS IS OF BULK AT MOST 1048576: true; the input reads as it did. -/
def fnExactCollectGraphUptoRow : OpenClaim := { program := "ytjpjikfmdaejeaa", sum := "7874bc5cf13a55efe6c04d600dc6c0ccd4ede75940d9c3af43806caf47292a99", func := "loop.example/graphreducer/laws.FnExactCollectGraph", spec := "fnExactCollectGraph", unfollowed := true, recurses := true, apart := false, narrowed := true }
def FnExactCollectGraphUptoSaid : Prop := fnExactCollectGraphUptoRow.holds Try.pinned (OpenSpec.upto fnExactCollectGraphSpec)

/-- 'laws.FnExactSelectGraph', WHERE WHAT IT READS IS OF BULK AT MOST 1048576: true; the input reads as it did. -/
def fnExactSelectGraphUptoRow : OpenClaim := { program := "ytjpjikfmdaejeaa", sum := "7874bc5cf13a55efe6c04d600dc6c0ccd4ede75940d9c3af43806caf47292a99", func := "loop.example/graphreducer/laws.FnExactSelectGraph", spec := "fnExactSelectGraph", unfollowed := true, recurses := true, apart := false, narrowed := true }
def FnExactSelectGraphUptoSaid : Prop := fnExactSelectGraphUptoRow.holds Try.pinned (OpenSpec.upto fnExactSelectGraphSpec)

/-- 'laws.FnExactTidyGraph', WHERE WHAT IT READS IS OF BULK AT MOST 1048576: true; the input reads as it did. -/
def fnExactTidyGraphUptoRow : OpenClaim := { program := "ytjpjikfmdaejeaa", sum := "7874bc5cf13a55efe6c04d600dc6c0ccd4ede75940d9c3af43806caf47292a99", func := "loop.example/graphreducer/laws.FnExactTidyGraph", spec := "fnExactTidyGraph", unfollowed := true, recurses := true, apart := false, narrowed := true }
def FnExactTidyGraphUptoSaid : Prop := fnExactTidyGraphUptoRow.holds Try.pinned (OpenSpec.upto fnExactTidyGraphSpec)

end Rows
end Go.Proofs.Ytjpjikfmdaejeaa

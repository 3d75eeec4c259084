/-
  No cell of these rows narrows 'for every input' (looked for: loops, veiled, ifaces, maps, wideKeys, modest, calm, conditions, laid).
  DERIVED. THE GIVEN ROWS OF THIS SEAT. 6 by the template 'for every input the law returns true; each argument reads behind the call as it read before'; 0 by the template 'total and deterministic' (their statements: YtiipcgnkfhjpeaaTotals.lean).
  GIVEN WITH THE SEED: the statements are not yours to turn. If you find one false, say at which input.
  Laid BY PROGRAM, IN A SANDBOX (cutbox-rows.mjs): the forced cells as the released guide's own fill.sh prints them over the translation 470925e26f76d891… (all of the seat's roots in one cut). By AI agents, Wed Nov 11 2026. No macro, syntax, notation, axiom, sorry.
-/
import Derived.Test.YtiipcgnkfhjpeaaChecked
import GoSem.Claim
import GoSem.ClaimJoined
import GoSem.ClaimMapViews
import Derived.JoinedTies
import Derived.KernelRfl
namespace Go.Proofs.Ytiipcgnkfhjpeaa
/- THE CELL 'sum', in the pinned program and in every row, IS THE sha256 OF THE DUMP (.gsa) THAT YtiipcgnkfhjpeaaProg.lean LOADS. Nothing in Lean hashes anything: it is a label: what it is worth is what the hold of that sum in a sandbox is worth. -/
noncomputable def Try.pinned : Pinned := { name := "ytiipcgnkfhjpeaa", sum := "470925e26f76d8914a8c6d98032d123d4663ffdb8e7803aa03afa70f9194de9c", checked := Try.checked }
namespace Rows
def none {H : Type} : Left H := { results := [], args := [] }

/-- 'laws.FnExactPackGraph': WHATEVER THE INPUT: true; the input reads as it did. -/
def fnExactPackGraphSpec : ChangeSpec := { name := "fnExactPackGraph", fn := fun _ => fun
  | [d] => { results := [.lit (.bool true)], args := [d] }
  | _ => none }
def fnExactPackGraphRow : OpenClaim := { program := "ytiipcgnkfhjpeaa", sum := "470925e26f76d8914a8c6d98032d123d4663ffdb8e7803aa03afa70f9194de9c", func := "loop.example/graphreducer/laws.FnExactPackGraph", spec := "fnExactPackGraph", unfollowed := true, recurses := true, apart := false }
def FnExactPackGraphSaid : Prop := fnExactPackGraphRow.holds Try.pinned (OpenSpec.ofChange fnExactPackGraphSpec)

/-- ITS FALSE NEIGHBOUR: 'it returns false'. Refute it at one input. -/
def fnExactPackGraphWrong : ChangeSpec := { name := "fnExactPackGraph", fn := fun _ => fun
  | [d] => { results := [.lit (.bool false)], args := [d] }
  | _ => none }
def FnExactPackGraphWrongFalsely : Prop := fnExactPackGraphRow.holds Try.pinned (OpenSpec.ofChange fnExactPackGraphWrong)

/-- 'laws.FnExactUnpackWords': WHATEVER THE INPUT: true; the input reads as it did. -/
def fnExactUnpackWordsSpec : ChangeSpec := { name := "fnExactUnpackWords", fn := fun _ => fun
  | [d] => { results := [.lit (.bool true)], args := [d] }
  | _ => none }
def fnExactUnpackWordsRow : OpenClaim := { program := "ytiipcgnkfhjpeaa", sum := "470925e26f76d8914a8c6d98032d123d4663ffdb8e7803aa03afa70f9194de9c", func := "loop.example/graphreducer/laws.FnExactUnpackWords", spec := "fnExactUnpackWords", unfollowed := true, recurses := true, apart := false }
def FnExactUnpackWordsSaid : Prop := fnExactUnpackWordsRow.holds Try.pinned (OpenSpec.ofChange fnExactUnpackWordsSpec)

/-- ITS FALSE NEIGHBOUR: 'it returns false'. Refute it at one input. -/
def fnExactUnpackWordsWrong : ChangeSpec := { name := "fnExactUnpackWords", fn := fun _ => fun
  | [d] => { results := [.lit (.bool false)], args := [d] }
  | _ => none }
def FnExactUnpackWordsWrongFalsely : Prop := fnExactUnpackWordsRow.holds Try.pinned (OpenSpec.ofChange fnExactUnpackWordsWrong)

/-- 'laws.FnExactCopyWords': WHATEVER THE INPUT: true; the input reads as it did. -/
def fnExactCopyWordsSpec : ChangeSpec := { name := "fnExactCopyWords", fn := fun _ => fun
  | [d1, d2] => { results := [.lit (.bool true)], args := [d1, d2] }
  | _ => none }
def fnExactCopyWordsRow : OpenClaim := { program := "ytiipcgnkfhjpeaa", sum := "470925e26f76d8914a8c6d98032d123d4663ffdb8e7803aa03afa70f9194de9c", func := "loop.example/graphreducer/laws.FnExactCopyWords", spec := "fnExactCopyWords", unfollowed := true, recurses := true, apart := false }
def FnExactCopyWordsSaid : Prop := fnExactCopyWordsRow.holds Try.pinned (OpenSpec.ofChange fnExactCopyWordsSpec)

/-- ITS FALSE NEIGHBOUR: 'it returns false'. Refute it at one input. -/
def fnExactCopyWordsWrong : ChangeSpec := { name := "fnExactCopyWords", fn := fun _ => fun
  | [d1, d2] => { results := [.lit (.bool false)], args := [d1, d2] }
  | _ => none }
def FnExactCopyWordsWrongFalsely : Prop := fnExactCopyWordsRow.holds Try.pinned (OpenSpec.ofChange fnExactCopyWordsWrong)

/-- 'laws.FnExactWordAt': WHATEVER THE INPUT: true; the input reads as it did. -/
def fnExactWordAtSpec : ChangeSpec := { name := "fnExactWordAt", fn := fun _ => fun
  | [d1, d2] => { results := [.lit (.bool true)], args := [d1, d2] }
  | _ => none }
def fnExactWordAtRow : OpenClaim := { program := "ytiipcgnkfhjpeaa", sum := "470925e26f76d8914a8c6d98032d123d4663ffdb8e7803aa03afa70f9194de9c", func := "loop.example/graphreducer/laws.FnExactWordAt", spec := "fnExactWordAt", unfollowed := true, recurses := true, apart := false }
def FnExactWordAtSaid : Prop := fnExactWordAtRow.holds Try.pinned (OpenSpec.ofChange fnExactWordAtSpec)

/-- ITS FALSE NEIGHBOUR: 'it returns false'. Refute it at one input. -/
def fnExactWordAtWrong : ChangeSpec := { name := "fnExactWordAt", fn := fun _ => fun
  | [d1, d2] => { results := [.lit (.bool false)], args := [d1, d2] }
  | _ => none }
def FnExactWordAtWrongFalsely : Prop := fnExactWordAtRow.holds Try.pinned (OpenSpec.ofChange fnExactWordAtWrong)

/-- 'laws.FnExactAddressesOf': WHATEVER THE INPUT: true; the input reads as it did. -/
def fnExactAddressesOfSpec : ChangeSpec := { name := "fnExactAddressesOf", fn := fun _ => fun
  | [d] => { results := [.lit (.bool true)], args := [d] }
  | _ => none }
def fnExactAddressesOfRow : OpenClaim := { program := "ytiipcgnkfhjpeaa", sum := "470925e26f76d8914a8c6d98032d123d4663ffdb8e7803aa03afa70f9194de9c", func := "loop.example/graphreducer/laws.FnExactAddressesOf", spec := "fnExactAddressesOf", unfollowed := true, recurses := true, apart := false }
def FnExactAddressesOfSaid : Prop := fnExactAddressesOfRow.holds Try.pinned (OpenSpec.ofChange fnExactAddressesOfSpec)

/-- ITS FALSE NEIGHBOUR: 'it returns false'. Refute it at one input. -/
def fnExactAddressesOfWrong : ChangeSpec := { name := "fnExactAddressesOf", fn := fun _ => fun
  | [d] => { results := [.lit (.bool false)], args := [d] }
  | _ => none }
def FnExactAddressesOfWrongFalsely : Prop := fnExactAddressesOfRow.holds Try.pinned (OpenSpec.ofChange fnExactAddressesOfWrong)

/-- 'laws.FnExactForwardStep': WHATEVER THE INPUT: true; the input reads as it did. -/
def fnExactForwardStepSpec : ChangeSpec := { name := "fnExactForwardStep", fn := fun _ => fun
  | [d1, d2, d3] => { results := [.lit (.bool true)], args := [d1, d2, d3] }
  | _ => none }
def fnExactForwardStepRow : OpenClaim := { program := "ytiipcgnkfhjpeaa", sum := "470925e26f76d8914a8c6d98032d123d4663ffdb8e7803aa03afa70f9194de9c", func := "loop.example/graphreducer/laws.FnExactForwardStep", spec := "fnExactForwardStep", apart := false }
def FnExactForwardStepSaid : Prop := fnExactForwardStepRow.holds Try.pinned (OpenSpec.ofChange fnExactForwardStepSpec)

/-- ITS FALSE NEIGHBOUR: 'it returns false'. Refute it at one input. -/
def fnExactForwardStepWrong : ChangeSpec := { name := "fnExactForwardStep", fn := fun _ => fun
  | [d1, d2, d3] => { results := [.lit (.bool false)], args := [d1, d2, d3] }
  | _ => none }
def FnExactForwardStepWrongFalsely : Prop := fnExactForwardStepRow.holds Try.pinned (OpenSpec.ofChange fnExactForwardStepWrong)

/- THE SECOND FORM. 'bulk': how many values and letters a reading holds, each counted each time it is reached (what is shared counts as often as it is met; a slice's spare places count too). A statement '..UptoSaid' is the law's where the arguments, and the package variables that the reading takes, are together of bulk at most 1048576: NARROWER than '..Said'. Prove '..Said' where nothing that the law and all that it calls make is longer than what came in: it says more and counts as full. Else prove '..UptoSaid'. A law counts once. -/
mutual
def uptoBulk {H : Type} : DataW H → Nat
  | .lit (.string bytes) => bytes.length + 1
  | .lit _ => 1
  | .nil => 1
  | .ptr d => uptoBulk d + 1
  | .slice elems spare => uptoBulkAll elems + uptoBulkAll spare + 1
  | .agg parts => uptoBulkAll parts + 1
  | .iface _ d => uptoBulk d + 1
  | .map entries => uptoBulkEntries entries + 1
  | .held _ => 1
def uptoBulkAll {H : Type} : List (DataW H) → Nat
  | [] => 0
  | d :: r => uptoBulk d + uptoBulkAll r
def uptoBulkEntries {H : Type} : List (Lit × DataW H) → Nat
  | [] => 0
  | x :: r => uptoBulkEntry x + uptoBulkEntries r
def uptoBulkEntry {H : Type} : Lit × DataW H → Nat
  | (.string bytes, d) => bytes.length + uptoBulk d + 1
  | (_, d) => uptoBulk d + 1
 end
def uptoSmall : (H : Type) → List (DataW H) → Bool := fun _ ds => decide (uptoBulkAll ds ≤ 1048576)
def OpenSpec.upto (s : _root_.Go.ChangeSpec) : _root_.Go.OpenSpec := { _root_.Go.OpenSpec.ofChange s with cond := some uptoSmall }

/-- 'laws.FnExactPackGraph', WHERE WHAT IT READS IS OF BULK AT MOST 1048576: true; the input reads as it did. -/
def fnExactPackGraphUptoRow : OpenClaim := { program := "ytiipcgnkfhjpeaa", sum := "470925e26f76d8914a8c6d98032d123d4663ffdb8e7803aa03afa70f9194de9c", func := "loop.example/graphreducer/laws.FnExactPackGraph", spec := "fnExactPackGraph", unfollowed := true, recurses := true, apart := false, narrowed := true }
def FnExactPackGraphUptoSaid : Prop := fnExactPackGraphUptoRow.holds Try.pinned (OpenSpec.upto fnExactPackGraphSpec)

/-- 'laws.FnExactUnpackWords', WHERE WHAT IT READS IS OF BULK AT MOST 1048576: true; the input reads as it did. -/
def fnExactUnpackWordsUptoRow : OpenClaim := { program := "ytiipcgnkfhjpeaa", sum := "470925e26f76d8914a8c6d98032d123d4663ffdb8e7803aa03afa70f9194de9c", func := "loop.example/graphreducer/laws.FnExactUnpackWords", spec := "fnExactUnpackWords", unfollowed := true, recurses := true, apart := false, narrowed := true }
def FnExactUnpackWordsUptoSaid : Prop := fnExactUnpackWordsUptoRow.holds Try.pinned (OpenSpec.upto fnExactUnpackWordsSpec)

/-- 'laws.FnExactCopyWords', WHERE WHAT IT READS IS OF BULK AT MOST 1048576: true; the input reads as it did. -/
def fnExactCopyWordsUptoRow : OpenClaim := { program := "ytiipcgnkfhjpeaa", sum := "470925e26f76d8914a8c6d98032d123d4663ffdb8e7803aa03afa70f9194de9c", func := "loop.example/graphreducer/laws.FnExactCopyWords", spec := "fnExactCopyWords", unfollowed := true, recurses := true, apart := false, narrowed := true }
def FnExactCopyWordsUptoSaid : Prop := fnExactCopyWordsUptoRow.holds Try.pinned (OpenSpec.upto fnExactCopyWordsSpec)

/-- 'laws.FnExactWordAt', WHERE WHAT IT READS IS OF BULK AT MOST 1048576: true; the input reads as it did. -/
def fnExactWordAtUptoRow : OpenClaim := { program := "ytiipcgnkfhjpeaa", sum := "470925e26f76d8914a8c6d98032d123d4663ffdb8e7803aa03afa70f9194de9c", func := "loop.example/graphreducer/laws.FnExactWordAt", spec := "fnExactWordAt", unfollowed := true, recurses := true, apart := false, narrowed := true }
def FnExactWordAtUptoSaid : Prop := fnExactWordAtUptoRow.holds Try.pinned (OpenSpec.upto fnExactWordAtSpec)

/-- 'laws.FnExactAddressesOf', WHERE WHAT IT READS IS OF BULK AT MOST 1048576: true; the input reads as it did. -/
def fnExactAddressesOfUptoRow : OpenClaim := { program := "ytiipcgnkfhjpeaa", sum := "470925e26f76d8914a8c6d98032d123d4663ffdb8e7803aa03afa70f9194de9c", func := "loop.example/graphreducer/laws.FnExactAddressesOf", spec := "fnExactAddressesOf", unfollowed := true, recurses := true, apart := false, narrowed := true }
def FnExactAddressesOfUptoSaid : Prop := fnExactAddressesOfUptoRow.holds Try.pinned (OpenSpec.upto fnExactAddressesOfSpec)

/-- 'laws.FnExactForwardStep', WHERE WHAT IT READS IS OF BULK AT MOST 1048576: true; the input reads as it did. -/
def fnExactForwardStepUptoRow : OpenClaim := { program := "ytiipcgnkfhjpeaa", sum := "470925e26f76d8914a8c6d98032d123d4663ffdb8e7803aa03afa70f9194de9c", func := "loop.example/graphreducer/laws.FnExactForwardStep", spec := "fnExactForwardStep", apart := false, narrowed := true }
def FnExactForwardStepUptoSaid : Prop := fnExactForwardStepUptoRow.holds Try.pinned (OpenSpec.upto fnExactForwardStepSpec)

end Rows
end Go.Proofs.Ytiipcgnkfhjpeaa

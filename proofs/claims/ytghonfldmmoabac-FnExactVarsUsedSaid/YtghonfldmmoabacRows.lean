/-
  NARROWER THAN 'FOR EVERY INPUT', by the rows' own cells (each row's printed sentence says how): FnExactVarsUsed: loops · FnExactIsHead: loops · FnExactArguments: loops.
  DERIVED. THE GIVEN ROWS OF THIS SEAT. 3 by the template 'for every input the law returns true; each argument reads behind the call as it read before'; 0 by the template 'total and deterministic' (their statements: YtghonfldmmoabacTotals.lean).
  GIVEN WITH THE SEED: the statements are not yours to turn. If you find one false, say at which input.
  Laid BY PROGRAM, IN A SANDBOX (cutbox-rows.mjs): the forced cells as the released guide's own fill.sh prints them over the translation 852e68f51c6867c6… (all of the seat's roots in one cut). By AI agents, Wed Nov 11 2026. No macro, syntax, notation, axiom, sorry.
-/
import Derived.Test.YtghonfldmmoabacChecked
import GoSem.Claim
import GoSem.ClaimJoined
import GoSem.ClaimMapViews
import Derived.JoinedTies
import Derived.KernelRfl
namespace Go.Proofs.Ytghonfldmmoabac
/- THE CELL 'sum', in the pinned program and in every row, IS THE sha256 OF THE DUMP (.gsa) THAT YtghonfldmmoabacProg.lean LOADS. Nothing in Lean hashes anything: it is a label: what it is worth is what the hold of that sum in a sandbox is worth. -/
noncomputable def Try.pinned : Pinned := { name := "ytghonfldmmoabac", sum := "852e68f51c6867c682b3576d43454872f3515c4fe70e29540c571e3ae2529d91", checked := Try.checked }
namespace Rows
def none {H : Type} : Left H := { results := [], args := [] }

/-- 'laws.FnExactVarsUsed': WHATEVER THE INPUT: true; the input reads as it did. -/
def fnExactVarsUsedSpec : ChangeSpec := { name := "fnExactVarsUsed", fn := fun _ => fun
  | [d1, d2] => { results := [.lit (.bool true)], args := [d1, d2] }
  | _ => none }
def fnExactVarsUsedRow : OpenClaim := { program := "ytghonfldmmoabac", sum := "852e68f51c6867c682b3576d43454872f3515c4fe70e29540c571e3ae2529d91", func := "loop.example/graphreducer/laws.FnExactVarsUsed", spec := "fnExactVarsUsed", unfollowed := true, recurses := true, loops := true, plainKeys := false, apart := false }
def FnExactVarsUsedSaid : Prop := fnExactVarsUsedRow.holds Try.pinned (OpenSpec.ofChange fnExactVarsUsedSpec)

/-- ITS FALSE NEIGHBOUR: 'it returns false'. Refute it at one input. -/
def fnExactVarsUsedWrong : ChangeSpec := { name := "fnExactVarsUsed", fn := fun _ => fun
  | [d1, d2] => { results := [.lit (.bool false)], args := [d1, d2] }
  | _ => none }
def FnExactVarsUsedWrongFalsely : Prop := fnExactVarsUsedRow.holds Try.pinned (OpenSpec.ofChange fnExactVarsUsedWrong)

/-- 'laws.FnExactIsHead': WHATEVER THE INPUT: true; the input reads as it did. -/
def fnExactIsHeadSpec : ChangeSpec := { name := "fnExactIsHead", fn := fun _ => fun
  | [d1, d2] => { results := [.lit (.bool true)], args := [d1, d2] }
  | _ => none }
def fnExactIsHeadRow : OpenClaim := { program := "ytghonfldmmoabac", sum := "852e68f51c6867c682b3576d43454872f3515c4fe70e29540c571e3ae2529d91", func := "loop.example/graphreducer/laws.FnExactIsHead", spec := "fnExactIsHead", unfollowed := true, recurses := true, loops := true, plainKeys := false, apart := false }
def FnExactIsHeadSaid : Prop := fnExactIsHeadRow.holds Try.pinned (OpenSpec.ofChange fnExactIsHeadSpec)

/-- ITS FALSE NEIGHBOUR: 'it returns false'. Refute it at one input. -/
def fnExactIsHeadWrong : ChangeSpec := { name := "fnExactIsHead", fn := fun _ => fun
  | [d1, d2] => { results := [.lit (.bool false)], args := [d1, d2] }
  | _ => none }
def FnExactIsHeadWrongFalsely : Prop := fnExactIsHeadRow.holds Try.pinned (OpenSpec.ofChange fnExactIsHeadWrong)

/-- 'laws.FnExactArguments': WHATEVER THE INPUT: true; the input reads as it did. -/
def fnExactArgumentsSpec : ChangeSpec := { name := "fnExactArguments", fn := fun _ => fun
  | [d] => { results := [.lit (.bool true)], args := [d] }
  | _ => none }
def fnExactArgumentsRow : OpenClaim := { program := "ytghonfldmmoabac", sum := "852e68f51c6867c682b3576d43454872f3515c4fe70e29540c571e3ae2529d91", func := "loop.example/graphreducer/laws.FnExactArguments", spec := "fnExactArguments", unfollowed := true, recurses := true, loops := true, plainKeys := false, apart := false }
def FnExactArgumentsSaid : Prop := fnExactArgumentsRow.holds Try.pinned (OpenSpec.ofChange fnExactArgumentsSpec)

/-- ITS FALSE NEIGHBOUR: 'it returns false'. Refute it at one input. -/
def fnExactArgumentsWrong : ChangeSpec := { name := "fnExactArguments", fn := fun _ => fun
  | [d] => { results := [.lit (.bool false)], args := [d] }
  | _ => none }
def FnExactArgumentsWrongFalsely : Prop := fnExactArgumentsRow.holds Try.pinned (OpenSpec.ofChange fnExactArgumentsWrong)

/- THE SECOND FORM. 'bulk': how many values and letters a reading holds, each counted each time it is reached (what is shared counts as often as it is met; a slice's spare places count too). A statement '..UptoSaid' is the law's where the arguments, and the package variables that the reading takes, are together of bulk at most 1048576: NARROWER than '..Said'. Prove '..Said' where nothing that the law and all that it calls make is longer than what came in: it says more and counts as full. Else prove '..UptoSaid'. A law counts once. -/
mutual
def uptoBulk {H : Type} : DataW H → Nat
  | .lit (.string bytes) => bytes.length + 1
  | .lit _ => 1
  | .nil => 1
  | .ptr d => uptoBulk d + 1
  | .slice elems spare => uptoBulkAll elems + uptoBulkAll spare + 1
  | .agg parts => uptoBulkAll parts + 1
  | .iface _ d => uptoBulk d + 1
  | .map entries => uptoBulkEntries entries + 1
  | .held _ => 1
def uptoBulkAll {H : Type} : List (DataW H) → Nat
  | [] => 0
  | d :: r => uptoBulk d + uptoBulkAll r
def uptoBulkEntries {H : Type} : List (Lit × DataW H) → Nat
  | [] => 0
  | x :: r => uptoBulkEntry x + uptoBulkEntries r
def uptoBulkEntry {H : Type} : Lit × DataW H → Nat
  | (.string bytes, d) => bytes.length + uptoBulk d + 1
  | (_, d) => uptoBulk d + 1
 end
def uptoSmall : (H : Type) → List (DataW H) → Bool := fun _ ds => decide (uptoBulkAll ds ≤ 1048576)
def OpenSpec.upto (s : _root_.Go.ChangeSpec) : _root_.Go.OpenSpec := { _root_.Go.OpenSpec.ofChange s with cond := some uptoSmall }

/-- 'laws.FnExactVarsUsed', WHERE WHAT IT READS IS OF BULK AT MOST 1048576: true; the input reads as it did. -/
def fnExactVarsUsedUptoRow : OpenClaim := { program := "ytghonfldmmoabac", sum := "852e68f51c6867c682b3576d43454872f3515c4fe70e29540c571e3ae2529d91", func := "loop.example/graphreducer/laws.FnExactVarsUsed", spec := "fnExactVarsUsed", unfollowed := true, recurses := true, loops := true, plainKeys := false, apart := false, narrowed := true }
def FnExactVarsUsedUptoSaid : Prop := fnExactVarsUsedUptoRow.holds Try.pinned (OpenSpec.upto fnExactVarsUsedSpec)

/-- 'laws.FnExactIsHead', WHERE WHAT IT READS IS OF BULK AT MOST 1048576: true; the input reads as it did. -/
def fnExactIsHeadUptoRow : OpenClaim := { program := "ytghonfldmmoabac", sum := "852e68f51c6867c682b3576d43454872f3515c4fe70e29540c571e3ae2529d91", func := "loop.example/graphreducer/laws.FnExactIsHead", spec := "fnExactIsHead", unfollowed := true, recurses := true, loops := true, plainKeys := false, apart := false, narrowed := true }
def FnExactIsHeadUptoSaid : Prop := fnExactIsHeadUptoRow.holds Try.pinned (OpenSpec.upto fnExactIsHeadSpec)

/-- 'laws.FnExactArguments', WHERE WHAT IT READS IS OF BULK AT MOST 1048576: true; the input reads as it did. -/
def fnExactArgumentsUptoRow : OpenClaim := { program := "ytghonfldmmoabac", sum := "852e68f51c6867c682b3576d43454872f3515c4fe70e29540c571e3ae2529d91", func := "loop.example/graphreducer/laws.FnExactArguments", spec := "fnExactArguments", unfollowed := true, recurses := true, loops := true, plainKeys := false, apart := false, narrowed := true }
def FnExactArgumentsUptoSaid : Prop := fnExactArgumentsUptoRow.holds Try.pinned (OpenSpec.upto fnExactArgumentsSpec)

end Rows
end Go.Proofs.Ytghonfldmmoabac

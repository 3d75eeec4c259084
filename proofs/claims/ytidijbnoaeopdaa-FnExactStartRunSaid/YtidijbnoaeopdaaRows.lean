/-
  NARROWER THAN 'FOR EVERY INPUT', by the rows' own cells (each row's printed sentence says how): FnExactStartRun: loops · FnExactRunValid: loops · FnExactArguments: loops.
  DERIVED. THE GIVEN ROWS OF THIS SEAT. 3 by the template 'for every input the law returns true; each argument reads behind the call as it read before'; 0 by the template 'total and deterministic' (their statements: YtidijbnoaeopdaaTotals.lean).
  GIVEN WITH THE SEED: the statements are not yours to turn. If you find one false, say at which input.
  Laid BY PROGRAM, IN A SANDBOX (cutbox-rows.mjs): the forced cells as the released guide's own fill.sh prints them over the translation 034b92a26b158272… (all of the seat's roots in one cut). By AI agents, Wed Nov 11 2026. No macro, syntax, notation, axiom, sorry.
-/
import Derived.Test.YtidijbnoaeopdaaChecked
import GoSem.Claim
import GoSem.ClaimJoined
import GoSem.ClaimMapViews
import Derived.JoinedTies
import Derived.KernelRfl
namespace Go.Proofs.Ytidijbnoaeopdaa
/- THE CELL 'sum', in the pinned program and in every row, IS THE sha256 OF THE DUMP (.gsa) THAT YtidijbnoaeopdaaProg.lean LOADS. Nothing in Lean hashes anything: it is a label: what it is worth is what the hold of that sum in a sandbox is worth. -/
noncomputable def Try.pinned : Pinned := { name := "ytidijbnoaeopdaa", sum := "034b92a26b15827294199fab3769e6e5ec386b0d1a79e44a8aa59075c56ae253", checked := Try.checked }
namespace Rows
def none {H : Type} : Left H := { results := [], args := [] }

/-- 'laws.FnExactStartRun': WHATEVER THE INPUT: true; the input reads as it did. -/
def fnExactStartRunSpec : ChangeSpec := { name := "fnExactStartRun", fn := fun _ => fun
  | [d1, d2] => { results := [.lit (.bool true)], args := [d1, d2] }
  | _ => none }
def fnExactStartRunRow : OpenClaim := { program := "ytidijbnoaeopdaa", sum := "034b92a26b15827294199fab3769e6e5ec386b0d1a79e44a8aa59075c56ae253", func := "loop.example/graphreducer/laws.FnExactStartRun", spec := "fnExactStartRun", unfollowed := true, recurses := true, loops := true, plainKeys := false, apart := false }
def FnExactStartRunSaid : Prop := fnExactStartRunRow.holds Try.pinned (OpenSpec.ofChange fnExactStartRunSpec)

/-- ITS FALSE NEIGHBOUR: 'it returns false'. Refute it at one input. -/
def fnExactStartRunWrong : ChangeSpec := { name := "fnExactStartRun", fn := fun _ => fun
  | [d1, d2] => { results := [.lit (.bool false)], args := [d1, d2] }
  | _ => none }
def FnExactStartRunWrongFalsely : Prop := fnExactStartRunRow.holds Try.pinned (OpenSpec.ofChange fnExactStartRunWrong)

/-- 'laws.FnExactRunValid': WHATEVER THE INPUT: true; the input reads as it did. -/
def fnExactRunValidSpec : ChangeSpec := { name := "fnExactRunValid", fn := fun _ => fun
  | [d1, d2] => { results := [.lit (.bool true)], args := [d1, d2] }
  | _ => none }
def fnExactRunValidRow : OpenClaim := { program := "ytidijbnoaeopdaa", sum := "034b92a26b15827294199fab3769e6e5ec386b0d1a79e44a8aa59075c56ae253", func := "loop.example/graphreducer/laws.FnExactRunValid", spec := "fnExactRunValid", unfollowed := true, recurses := true, loops := true, plainKeys := false, apart := false }
def FnExactRunValidSaid : Prop := fnExactRunValidRow.holds Try.pinned (OpenSpec.ofChange fnExactRunValidSpec)

/-- ITS FALSE NEIGHBOUR: 'it returns false'. Refute it at one input. -/
def fnExactRunValidWrong : ChangeSpec := { name := "fnExactRunValid", fn := fun _ => fun
  | [d1, d2] => { results := [.lit (.bool false)], args := [d1, d2] }
  | _ => none }
def FnExactRunValidWrongFalsely : Prop := fnExactRunValidRow.holds Try.pinned (OpenSpec.ofChange fnExactRunValidWrong)

/-- 'laws.FnExactArguments': WHATEVER THE INPUT: true; the input reads as it did. -/
def fnExactArgumentsSpec : ChangeSpec := { name := "fnExactArguments", fn := fun _ => fun
  | [d] => { results := [.lit (.bool true)], args := [d] }
  | _ => none }
def fnExactArgumentsRow : OpenClaim := { program := "ytidijbnoaeopdaa", sum := "034b92a26b15827294199fab3769e6e5ec386b0d1a79e44a8aa59075c56ae253", func := "loop.example/graphreducer/laws.FnExactArguments", spec := "fnExactArguments", unfollowed := true, recurses := true, loops := true, plainKeys := false, apart := false }
def FnExactArgumentsSaid : Prop := fnExactArgumentsRow.holds Try.pinned (OpenSpec.ofChange fnExactArgumentsSpec)

/-- ITS FALSE NEIGHBOUR: 'it returns false'. Refute it at one input. -/
def fnExactArgumentsWrong : ChangeSpec := { name := "fnExactArguments", fn := fun _ => fun
  | [d] => { results := [.lit (.bool false)], args := [d] }
  | _ => none }
def FnExactArgumentsWrongFalsely : Prop := fnExactArgumentsRow.holds Try.pinned (OpenSpec.ofChange fnExactArgumentsWrong)

/- THE SECOND FORM. 'bulk': how many values and letters a reading holds, each counted each time it is reached (what is shared counts as often as it is met; a slice's spare places count too). A statement '..UptoSaid' is the law's where the arguments, and the package variables that the reading takes, are together of bulk at most 1048576: NARROWER than '..Said'. Prove '..Said' where nothing that the law and all that it calls make is longer than what came in: it says more and counts as full. Else prove '..UptoSaid'. A law counts once. -/
mutual
def uptoBulk {H : Type} : DataW H → Nat
  | .lit (.string bytes) => bytes.length + 1
  | .lit _ => 1
  | .nil => 1
  | .ptr d => uptoBulk d + 1
  | .slice elems spare => uptoBulkAll elems + uptoBulkAll spare + 1
  | .agg parts => uptoBulkAll parts + 1
  | .iface _ d => uptoBulk d + 1
  | .map entries => uptoBulkEntries entries + 1
  | .held _ => 1
def uptoBulkAll {H : Type} : List (DataW H) → Nat
  | [] => 0
  | d :: r => uptoBulk d + uptoBulkAll r
def uptoBulkEntries {H : Type} : List (Lit × DataW H) → Nat
  | [] => 0
  | x :: r => uptoBulkEntry x + uptoBulkEntries r
def uptoBulkEntry {H : Type} : Lit × DataW H → Nat
  | (.string bytes, d) => bytes.length + uptoBulk d + 1
  | (_, d) => uptoBulk d + 1
 end
def uptoSmall : (H : Type) → List (DataW H) → Bool := fun _ ds => decide (uptoBulkAll ds ≤ 1048576)
def OpenSpec.upto (s : _root_.Go.ChangeSpec) : _root_.Go.OpenSpec := { _root_.Go.OpenSpec.ofChange s with cond := some uptoSmall }

/-- 'laws.FnExactStartRun', WHERE WHAT IT READS IS OF BULK AT MOST 1048576: true; the input reads as it did. -/
def fnExactStartRunUptoRow : OpenClaim := { program := "ytidijbnoaeopdaa", sum := "034b92a26b15827294199fab3769e6e5ec386b0d1a79e44a8aa59075c56ae253", func := "loop.example/graphreducer/laws.FnExactStartRun", spec := "fnExactStartRun", unfollowed := true, recurses := true, loops := true, plainKeys := false, apart := false, narrowed := true }
def FnExactStartRunUptoSaid : Prop := fnExactStartRunUptoRow.holds Try.pinned (OpenSpec.upto fnExactStartRunSpec)

/-- 'laws.FnExactRunValid', WHERE WHAT IT READS IS OF BULK AT MOST 1048576: true; the input reads as it did. -/
def fnExactRunValidUptoRow : OpenClaim := { program := "ytidijbnoaeopdaa", sum := "034b92a26b15827294199fab3769e6e5ec386b0d1a79e44a8aa59075c56ae253", func := "loop.example/graphreducer/laws.FnExactRunValid", spec := "fnExactRunValid", unfollowed := true, recurses := true, loops := true, plainKeys := false, apart := false, narrowed := true }
def FnExactRunValidUptoSaid : Prop := fnExactRunValidUptoRow.holds Try.pinned (OpenSpec.upto fnExactRunValidSpec)

/-- 'laws.FnExactArguments', WHERE WHAT IT READS IS OF BULK AT MOST 1048576: true; the input reads as it did. -/
def fnExactArgumentsUptoRow : OpenClaim := { program := "ytidijbnoaeopdaa", sum := "034b92a26b15827294199fab3769e6e5ec386b0d1a79e44a8aa59075c56ae253", func := "loop.example/graphreducer/laws.FnExactArguments", spec := "fnExactArguments", unfollowed := true, recurses := true, loops := true, plainKeys := false, apart := false, narrowed := true }
def FnExactArgumentsUptoSaid : Prop := fnExactArgumentsUptoRow.holds Try.pinned (OpenSpec.upto fnExactArgumentsSpec)

end Rows
end Go.Proofs.Ytidijbnoaeopdaa

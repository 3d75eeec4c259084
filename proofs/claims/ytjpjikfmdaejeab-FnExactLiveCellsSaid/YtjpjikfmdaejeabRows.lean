/-
  NARROWER THAN 'FOR EVERY INPUT', by the rows' own cells (each row's printed sentence says how): FnExactArguments: loops · FnExactFormatExpr: loops.
  DERIVED. THE GIVEN ROWS OF THIS SEAT. 5 by the template 'for every input the law returns true; each argument reads behind the call as it read before'; 0 by the template 'total and deterministic' (their statements: YtjpjikfmdaejeabTotals.lean).
  GIVEN WITH THE SEED: the statements are not yours to turn. If you find one false, say at which input.
  Laid BY PROGRAM, IN A SANDBOX (cutbox-rows.mjs): the forced cells as the released guide's own fill.sh prints them over the translation 8c43d036ae2bf289… (all of the seat's roots in one cut). By AI agents, Wed Nov 11 2026. No macro, syntax, notation, axiom, sorry.
-/
import Derived.Test.YtjpjikfmdaejeabChecked
import GoSem.Claim
import GoSem.ClaimJoined
import GoSem.ClaimMapViews
import Derived.JoinedTies
import Derived.KernelRfl
namespace Go.Proofs.Ytjpjikfmdaejeab
/- THE CELL 'sum', in the pinned program and in every row, IS THE sha256 OF THE DUMP (.gsa) THAT YtjpjikfmdaejeabProg.lean LOADS. Nothing in Lean hashes anything: it is a label: what it is worth is what the hold of that sum in a sandbox is worth. -/
noncomputable def Try.pinned : Pinned := { name := "ytjpjikfmdaejeab", sum := "8c43d036ae2bf289f214b7de8f278685e06121369dfad872676399c1ea9ff63c", checked := Try.checked }
namespace Rows
def none {H : Type} : Left H := { results := [], args := [] }

/-- 'laws.FnExactSameFrom': WHATEVER THE INPUT: true; the input reads as it did. -/
def fnExactSameFromSpec : ChangeSpec := { name := "fnExactSameFrom", fn := fun _ => fun
  | [d1, d2, d3, d4] => { results := [.lit (.bool true)], args := [d1, d2, d3, d4] }
  | _ => none }
def fnExactSameFromRow : OpenClaim := { program := "ytjpjikfmdaejeab", sum := "8c43d036ae2bf289f214b7de8f278685e06121369dfad872676399c1ea9ff63c", func := "loop.example/graphreducer/laws.FnExactSameFrom", spec := "fnExactSameFrom", unfollowed := true, recurses := true, plainKeys := false, apart := false }
def FnExactSameFromSaid : Prop := fnExactSameFromRow.holds Try.pinned (OpenSpec.ofChange fnExactSameFromSpec)

/-- ITS FALSE NEIGHBOUR: 'it returns false'. Refute it at one input. -/
def fnExactSameFromWrong : ChangeSpec := { name := "fnExactSameFrom", fn := fun _ => fun
  | [d1, d2, d3, d4] => { results := [.lit (.bool false)], args := [d1, d2, d3, d4] }
  | _ => none }
def FnExactSameFromWrongFalsely : Prop := fnExactSameFromRow.holds Try.pinned (OpenSpec.ofChange fnExactSameFromWrong)

/-- 'laws.FnExactLiveCells': WHATEVER THE INPUT: true; the input reads as it did. -/
def fnExactLiveCellsSpec : ChangeSpec := { name := "fnExactLiveCells", fn := fun _ => fun
  | [d1, d2] => { results := [.lit (.bool true)], args := [d1, d2] }
  | _ => none }
def fnExactLiveCellsRow : OpenClaim := { program := "ytjpjikfmdaejeab", sum := "8c43d036ae2bf289f214b7de8f278685e06121369dfad872676399c1ea9ff63c", func := "loop.example/graphreducer/laws.FnExactLiveCells", spec := "fnExactLiveCells", unfollowed := true, recurses := true, plainKeys := false, apart := false }
def FnExactLiveCellsSaid : Prop := fnExactLiveCellsRow.holds Try.pinned (OpenSpec.ofChange fnExactLiveCellsSpec)

/-- ITS FALSE NEIGHBOUR: 'it returns false'. Refute it at one input. -/
def fnExactLiveCellsWrong : ChangeSpec := { name := "fnExactLiveCells", fn := fun _ => fun
  | [d1, d2] => { results := [.lit (.bool false)], args := [d1, d2] }
  | _ => none }
def FnExactLiveCellsWrongFalsely : Prop := fnExactLiveCellsRow.holds Try.pinned (OpenSpec.ofChange fnExactLiveCellsWrong)

/-- 'laws.FnExactArguments': WHATEVER THE INPUT: true; the input reads as it did. -/
def fnExactArgumentsSpec : ChangeSpec := { name := "fnExactArguments", fn := fun _ => fun
  | [d] => { results := [.lit (.bool true)], args := [d] }
  | _ => none }
def fnExactArgumentsRow : OpenClaim := { program := "ytjpjikfmdaejeab", sum := "8c43d036ae2bf289f214b7de8f278685e06121369dfad872676399c1ea9ff63c", func := "loop.example/graphreducer/laws.FnExactArguments", spec := "fnExactArguments", unfollowed := true, recurses := true, loops := true, plainKeys := false, apart := false }
def FnExactArgumentsSaid : Prop := fnExactArgumentsRow.holds Try.pinned (OpenSpec.ofChange fnExactArgumentsSpec)

/-- ITS FALSE NEIGHBOUR: 'it returns false'. Refute it at one input. -/
def fnExactArgumentsWrong : ChangeSpec := { name := "fnExactArguments", fn := fun _ => fun
  | [d] => { results := [.lit (.bool false)], args := [d] }
  | _ => none }
def FnExactArgumentsWrongFalsely : Prop := fnExactArgumentsRow.holds Try.pinned (OpenSpec.ofChange fnExactArgumentsWrong)

/-- 'laws.FnExactFormatExpr': WHATEVER THE INPUT: true; the input reads as it did. -/
def fnExactFormatExprSpec : ChangeSpec := { name := "fnExactFormatExpr", fn := fun _ => fun
  | [d] => { results := [.lit (.bool true)], args := [d] }
  | _ => none }
def fnExactFormatExprRow : OpenClaim := { program := "ytjpjikfmdaejeab", sum := "8c43d036ae2bf289f214b7de8f278685e06121369dfad872676399c1ea9ff63c", func := "loop.example/graphreducer/laws.FnExactFormatExpr", spec := "fnExactFormatExpr", unfollowed := true, recurses := true, loops := true, plainKeys := false, apart := false }
def FnExactFormatExprSaid : Prop := fnExactFormatExprRow.holds Try.pinned (OpenSpec.ofChange fnExactFormatExprSpec)

/-- ITS FALSE NEIGHBOUR: 'it returns false'. Refute it at one input. -/
def fnExactFormatExprWrong : ChangeSpec := { name := "fnExactFormatExpr", fn := fun _ => fun
  | [d] => { results := [.lit (.bool false)], args := [d] }
  | _ => none }
def FnExactFormatExprWrongFalsely : Prop := fnExactFormatExprRow.holds Try.pinned (OpenSpec.ofChange fnExactFormatExprWrong)

/-- 'laws.FnExactParseExpr': WHATEVER THE INPUT: true; the input reads as it did. -/
def fnExactParseExprSpec : ChangeSpec := { name := "fnExactParseExpr", fn := fun _ => fun
  | [d] => { results := [.lit (.bool true)], args := [d] }
  | _ => none }
def fnExactParseExprRow : OpenClaim := { program := "ytjpjikfmdaejeab", sum := "8c43d036ae2bf289f214b7de8f278685e06121369dfad872676399c1ea9ff63c", func := "loop.example/graphreducer/laws.FnExactParseExpr", spec := "fnExactParseExpr", unfollowed := true, recurses := true, plainKeys := false, apart := false }
def FnExactParseExprSaid : Prop := fnExactParseExprRow.holds Try.pinned (OpenSpec.ofChange fnExactParseExprSpec)

/-- ITS FALSE NEIGHBOUR: 'it returns false'. Refute it at one input. -/
def fnExactParseExprWrong : ChangeSpec := { name := "fnExactParseExpr", fn := fun _ => fun
  | [d] => { results := [.lit (.bool false)], args := [d] }
  | _ => none }
def FnExactParseExprWrongFalsely : Prop := fnExactParseExprRow.holds Try.pinned (OpenSpec.ofChange fnExactParseExprWrong)

/- THE SECOND FORM. 'bulk': how many values and letters a reading holds, each counted each time it is reached (what is shared counts as often as it is met; a slice's spare places count too). A statement '..UptoSaid' is the law's where the arguments, and the package variables that the reading takes, are together of bulk at most 1048576: NARROWER than '..Said'. Prove '..Said' where nothing that the law and all that it calls make is longer than what came in: it says more and counts as full. Else prove '..UptoSaid'. A law counts once. -/
mutual
def uptoBulk {H : Type} : DataW H → Nat
  | .lit (.string bytes) => bytes.length + 1
  | .lit _ => 1
  | .nil => 1
  | .ptr d => uptoBulk d + 1
  | .slice elems spare => uptoBulkAll elems + uptoBulkAll spare + 1
  | .agg parts => uptoBulkAll parts + 1
  | .iface _ d => uptoBulk d + 1
  | .map entries => uptoBulkEntries entries + 1
  | .held _ => 1
def uptoBulkAll {H : Type} : List (DataW H) → Nat
  | [] => 0
  | d :: r => uptoBulk d + uptoBulkAll r
def uptoBulkEntries {H : Type} : List (Lit × DataW H) → Nat
  | [] => 0
  | x :: r => uptoBulkEntry x + uptoBulkEntries r
def uptoBulkEntry {H : Type} : Lit × DataW H → Nat
  | (.string bytes, d) => bytes.length + uptoBulk d + 1
  | (_, d) => uptoBulk d + 1
 end
def uptoSmall : (H : Type) → List (DataW H) → Bool := fun _ ds => decide (uptoBulkAll ds ≤ 1048576)
def OpenSpec.upto (s : _root_.Go.ChangeSpec) : _root_.Go.OpenSpec := { _root_.Go.OpenSpec.ofChange s with cond := some uptoSmall }

/-- 'laws.FnExactSameFrom', WHERE WHAT IT READS IS OF BULK AT MOST 1048576: true; the input reads as it did. -/
def fnExactSameFromUptoRow : OpenClaim := { program := "ytjpjikfmdaejeab", sum := "8c43d036ae2bf289f214b7de8f278685e06121369dfad872676399c1ea9ff63c", func := "loop.example/graphreducer/laws.FnExactSameFrom", spec := "fnExactSameFrom", unfollowed := true, recurses := true, plainKeys := false, apart := false, narrowed := true }
def FnExactSameFromUptoSaid : Prop := fnExactSameFromUptoRow.holds Try.pinned (OpenSpec.upto fnExactSameFromSpec)

/-- 'laws.FnExactLiveCells', WHERE WHAT IT READS IS OF BULK AT MOST 1048576: true; the input reads as it did. -/
def fnExactLiveCellsUptoRow : OpenClaim := { program := "ytjpjikfmdaejeab", sum := "8c43d036ae2bf289f214b7de8f278685e06121369dfad872676399c1ea9ff63c", func := "loop.example/graphreducer/laws.FnExactLiveCells", spec := "fnExactLiveCells", unfollowed := true, recurses := true, plainKeys := false, apart := false, narrowed := true }
def FnExactLiveCellsUptoSaid : Prop := fnExactLiveCellsUptoRow.holds Try.pinned (OpenSpec.upto fnExactLiveCellsSpec)

/-- 'laws.FnExactArguments', WHERE WHAT IT READS IS OF BULK AT MOST 1048576: true; the input reads as it did. -/
def fnExactArgumentsUptoRow : OpenClaim := { program := "ytjpjikfmdaejeab", sum := "8c43d036ae2bf289f214b7de8f278685e06121369dfad872676399c1ea9ff63c", func := "loop.example/graphreducer/laws.FnExactArguments", spec := "fnExactArguments", unfollowed := true, recurses := true, loops := true, plainKeys := false, apart := false, narrowed := true }
def FnExactArgumentsUptoSaid : Prop := fnExactArgumentsUptoRow.holds Try.pinned (OpenSpec.upto fnExactArgumentsSpec)

/-- 'laws.FnExactFormatExpr', WHERE WHAT IT READS IS OF BULK AT MOST 1048576: true; the input reads as it did. -/
def fnExactFormatExprUptoRow : OpenClaim := { program := "ytjpjikfmdaejeab", sum := "8c43d036ae2bf289f214b7de8f278685e06121369dfad872676399c1ea9ff63c", func := "loop.example/graphreducer/laws.FnExactFormatExpr", spec := "fnExactFormatExpr", unfollowed := true, recurses := true, loops := true, plainKeys := false, apart := false, narrowed := true }
def FnExactFormatExprUptoSaid : Prop := fnExactFormatExprUptoRow.holds Try.pinned (OpenSpec.upto fnExactFormatExprSpec)

/-- 'laws.FnExactParseExpr', WHERE WHAT IT READS IS OF BULK AT MOST 1048576: true; the input reads as it did. -/
def fnExactParseExprUptoRow : OpenClaim := { program := "ytjpjikfmdaejeab", sum := "8c43d036ae2bf289f214b7de8f278685e06121369dfad872676399c1ea9ff63c", func := "loop.example/graphreducer/laws.FnExactParseExpr", spec := "fnExactParseExpr", unfollowed := true, recurses := true, plainKeys := false, apart := false, narrowed := true }
def FnExactParseExprUptoSaid : Prop := fnExactParseExprUptoRow.holds Try.pinned (OpenSpec.upto fnExactParseExprSpec)

end Rows
end Go.Proofs.Ytjpjikfmdaejeab

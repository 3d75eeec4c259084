/-
  NARROWER THAN 'FOR EVERY INPUT', by the rows' own cells (each row's printed sentence says how): FnExactAddExpr: loops · FnExactIsValue: loops.
  DERIVED. THE GIVEN ROWS OF THIS SEAT. 3 by the template 'for every input the law returns true; each argument reads behind the call as it read before'; 0 by the template 'total and deterministic' (their statements: YthlblgibgfledaaTotals.lean).
  GIVEN WITH THE SEED: the statements are not yours to turn. If you find one false, say at which input.
  Laid BY PROGRAM, IN A SANDBOX (cutbox-rows.mjs): the forced cells as the released guide's own fill.sh prints them over the translation c66d5c825c7133df… (all of the seat's roots in one cut). By AI agents, Wed Nov 11 2026. No macro, syntax, notation, axiom, sorry.
-/
import Derived.Test.YthlblgibgfledaaChecked
import GoSem.Claim
import GoSem.ClaimJoined
import GoSem.ClaimMapViews
import Derived.JoinedTies
import Derived.KernelRfl
namespace Go.Proofs.Ythlblgibgfledaa
/- THE CELL 'sum', in the pinned program and in every row, IS THE sha256 OF THE DUMP (.gsa) THAT YthlblgibgfledaaProg.lean LOADS. Nothing in Lean hashes anything: it is a label: what it is worth is what the hold of that sum in a sandbox is worth. -/
noncomputable def Try.pinned : Pinned := { name := "ythlblgibgfledaa", sum := "c66d5c825c7133dfc5947b053969ab4b071633a8edd4bc1434090a980b721123", checked := Try.checked }
namespace Rows
def none {H : Type} : Left H := { results := [], args := [] }

/-- 'laws.FnExactAddExpr': WHATEVER THE INPUT: true; the input reads as it did. -/
def fnExactAddExprSpec : ChangeSpec := { name := "fnExactAddExpr", fn := fun _ => fun
  | [d1, d2, d3, d4] => { results := [.lit (.bool true)], args := [d1, d2, d3, d4] }
  | _ => none }
def fnExactAddExprRow : OpenClaim := { program := "ythlblgibgfledaa", sum := "c66d5c825c7133dfc5947b053969ab4b071633a8edd4bc1434090a980b721123", func := "loop.example/graphreducer/laws.FnExactAddExpr", spec := "fnExactAddExpr", unfollowed := true, recurses := true, loops := true, apart := false }
def FnExactAddExprSaid : Prop := fnExactAddExprRow.holds Try.pinned (OpenSpec.ofChange fnExactAddExprSpec)

/-- ITS FALSE NEIGHBOUR: 'it returns false'. Refute it at one input. -/
def fnExactAddExprWrong : ChangeSpec := { name := "fnExactAddExpr", fn := fun _ => fun
  | [d1, d2, d3, d4] => { results := [.lit (.bool false)], args := [d1, d2, d3, d4] }
  | _ => none }
def FnExactAddExprWrongFalsely : Prop := fnExactAddExprRow.holds Try.pinned (OpenSpec.ofChange fnExactAddExprWrong)

/-- 'laws.FnExactSpineOf': WHATEVER THE INPUT: true; the input reads as it did. -/
def fnExactSpineOfSpec : ChangeSpec := { name := "fnExactSpineOf", fn := fun _ => fun
  | [d1, d2] => { results := [.lit (.bool true)], args := [d1, d2] }
  | _ => none }
def fnExactSpineOfRow : OpenClaim := { program := "ythlblgibgfledaa", sum := "c66d5c825c7133dfc5947b053969ab4b071633a8edd4bc1434090a980b721123", func := "loop.example/graphreducer/laws.FnExactSpineOf", spec := "fnExactSpineOf", unfollowed := true, recurses := true, apart := false }
def FnExactSpineOfSaid : Prop := fnExactSpineOfRow.holds Try.pinned (OpenSpec.ofChange fnExactSpineOfSpec)

/-- ITS FALSE NEIGHBOUR: 'it returns false'. Refute it at one input. -/
def fnExactSpineOfWrong : ChangeSpec := { name := "fnExactSpineOf", fn := fun _ => fun
  | [d1, d2] => { results := [.lit (.bool false)], args := [d1, d2] }
  | _ => none }
def FnExactSpineOfWrongFalsely : Prop := fnExactSpineOfRow.holds Try.pinned (OpenSpec.ofChange fnExactSpineOfWrong)

/-- 'laws.FnExactIsValue': WHATEVER THE INPUT: true; the input reads as it did. -/
def fnExactIsValueSpec : ChangeSpec := { name := "fnExactIsValue", fn := fun _ => fun
  | [d1, d2, d3] => { results := [.lit (.bool true)], args := [d1, d2, d3] }
  | _ => none }
def fnExactIsValueRow : OpenClaim := { program := "ythlblgibgfledaa", sum := "c66d5c825c7133dfc5947b053969ab4b071633a8edd4bc1434090a980b721123", func := "loop.example/graphreducer/laws.FnExactIsValue", spec := "fnExactIsValue", unfollowed := true, recurses := true, loops := true, apart := false }
def FnExactIsValueSaid : Prop := fnExactIsValueRow.holds Try.pinned (OpenSpec.ofChange fnExactIsValueSpec)

/-- ITS FALSE NEIGHBOUR: 'it returns false'. Refute it at one input. -/
def fnExactIsValueWrong : ChangeSpec := { name := "fnExactIsValue", fn := fun _ => fun
  | [d1, d2, d3] => { results := [.lit (.bool false)], args := [d1, d2, d3] }
  | _ => none }
def FnExactIsValueWrongFalsely : Prop := fnExactIsValueRow.holds Try.pinned (OpenSpec.ofChange fnExactIsValueWrong)

/- THE SECOND FORM. 'bulk': how many values and letters a reading holds, each counted each time it is reached (what is shared counts as often as it is met; a slice's spare places count too). A statement '..UptoSaid' is the law's where the arguments, and the package variables that the reading takes, are together of bulk at most 1048576: NARROWER than '..Said'. Prove '..Said' where nothing that the law and all that it calls make is longer than what came in: it says more and counts as full. Else prove '..UptoSaid'. A law counts once. -/
mutual
def uptoBulk {H : Type} : DataW H → Nat
  | .lit (.string bytes) => bytes.length + 1
  | .lit _ => 1
  | .nil => 1
  | .ptr d => uptoBulk d + 1
  | .slice elems spare => uptoBulkAll elems + uptoBulkAll spare + 1
  | .agg parts => uptoBulkAll parts + 1
  | .iface _ d => uptoBulk d + 1
  | .map entries => uptoBulkEntries entries + 1
  | .held _ => 1
def uptoBulkAll {H : Type} : List (DataW H) → Nat
  | [] => 0
  | d :: r => uptoBulk d + uptoBulkAll r
def uptoBulkEntries {H : Type} : List (Lit × DataW H) → Nat
  | [] => 0
  | x :: r => uptoBulkEntry x + uptoBulkEntries r
def uptoBulkEntry {H : Type} : Lit × DataW H → Nat
  | (.string bytes, d) => bytes.length + uptoBulk d + 1
  | (_, d) => uptoBulk d + 1
 end
def uptoSmall : (H : Type) → List (DataW H) → Bool := fun _ ds => decide (uptoBulkAll ds ≤ 1048576)
def OpenSpec.upto (s : _root_.Go.ChangeSpec) : _root_.Go.OpenSpec := { _root_.Go.OpenSpec.ofChange s with cond := some uptoSmall }

/-- 'laws.FnExactAddExpr', WHERE WHAT IT READS IS OF BULK AT MOST 1048576: true; the input reads as it did. -/
def fnExactAddExprUptoRow : OpenClaim := { program := "ythlblgibgfledaa", sum := "c66d5c825c7133dfc5947b053969ab4b071633a8edd4bc1434090a980b721123", func := "loop.example/graphreducer/laws.FnExactAddExpr", spec := "fnExactAddExpr", unfollowed := true, recurses := true, loops := true, apart := false, narrowed := true }
def FnExactAddExprUptoSaid : Prop := fnExactAddExprUptoRow.holds Try.pinned (OpenSpec.upto fnExactAddExprSpec)

/-- 'laws.FnExactSpineOf', WHERE WHAT IT READS IS OF BULK AT MOST 1048576: true; the input reads as it did. -/
def fnExactSpineOfUptoRow : OpenClaim := { program := "ythlblgibgfledaa", sum := "c66d5c825c7133dfc5947b053969ab4b071633a8edd4bc1434090a980b721123", func := "loop.example/graphreducer/laws.FnExactSpineOf", spec := "fnExactSpineOf", unfollowed := true, recurses := true, apart := false, narrowed := true }
def FnExactSpineOfUptoSaid : Prop := fnExactSpineOfUptoRow.holds Try.pinned (OpenSpec.upto fnExactSpineOfSpec)

/-- 'laws.FnExactIsValue', WHERE WHAT IT READS IS OF BULK AT MOST 1048576: true; the input reads as it did. -/
def fnExactIsValueUptoRow : OpenClaim := { program := "ythlblgibgfledaa", sum := "c66d5c825c7133dfc5947b053969ab4b071633a8edd4bc1434090a980b721123", func := "loop.example/graphreducer/laws.FnExactIsValue", spec := "fnExactIsValue", unfollowed := true, recurses := true, loops := true, apart := false, narrowed := true }
def FnExactIsValueUptoSaid : Prop := fnExactIsValueUptoRow.holds Try.pinned (OpenSpec.upto fnExactIsValueSpec)

end Rows
end Go.Proofs.Ythlblgibgfledaa

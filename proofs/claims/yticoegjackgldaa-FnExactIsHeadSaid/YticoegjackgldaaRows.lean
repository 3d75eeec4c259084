/-
  NARROWER THAN 'FOR EVERY INPUT', by the rows' own cells (each row's printed sentence says how): FnExactExprValid: loops · FnExactProgramValid: loops · FnExactExprSame: loops · FnExactFormatExpr: loops · FnExactSubstExpr: loops · FnExactSizeOf: loops · FnExactVarsUsed: loops · FnExactIsHead: loops.
  DERIVED. THE GIVEN ROWS OF THIS SEAT. 9 by the template 'for every input the law returns true; each argument reads behind the call as it read before'; 0 by the template 'total and deterministic' (their statements: YticoegjackgldaaTotals.lean).
  GIVEN WITH THE SEED: the statements are not yours to turn. If you find one false, say at which input.
  Laid BY PROGRAM, IN A SANDBOX (cutbox-rows.mjs): the forced cells as the released guide's own fill.sh prints them over the translation d77e014c86a309d9… (all of the seat's roots in one cut). By AI agents, Wed Nov 11 2026. No macro, syntax, notation, axiom, sorry.
-/
import Derived.Test.YticoegjackgldaaChecked
import GoSem.Claim
import GoSem.ClaimJoined
import GoSem.ClaimMapViews
import Derived.JoinedTies
import Derived.KernelRfl
namespace Go.Proofs.Yticoegjackgldaa
/- THE CELL 'sum', in the pinned program and in every row, IS THE sha256 OF THE DUMP (.gsa) THAT YticoegjackgldaaProg.lean LOADS. Nothing in Lean hashes anything: it is a label: what it is worth is what the hold of that sum in a sandbox is worth. -/
noncomputable def Try.pinned : Pinned := { name := "yticoegjackgldaa", sum := "d77e014c86a309d965f9b1b621c30274c1edfbb236cd4575fab0014f7f69133b", checked := Try.checked }
namespace Rows
def none {H : Type} : Left H := { results := [], args := [] }

/-- 'laws.FnExactExprValid': WHATEVER THE INPUT: true; the input reads as it did. -/
def fnExactExprValidSpec : ChangeSpec := { name := "fnExactExprValid", fn := fun _ => fun
  | [d1, d2, d3] => { results := [.lit (.bool true)], args := [d1, d2, d3] }
  | _ => none }
def fnExactExprValidRow : OpenClaim := { program := "yticoegjackgldaa", sum := "d77e014c86a309d965f9b1b621c30274c1edfbb236cd4575fab0014f7f69133b", func := "loop.example/graphreducer/laws.FnExactExprValid", spec := "fnExactExprValid", unfollowed := true, recurses := true, loops := true, plainKeys := false, apart := false }
def FnExactExprValidSaid : Prop := fnExactExprValidRow.holds Try.pinned (OpenSpec.ofChange fnExactExprValidSpec)

/-- ITS FALSE NEIGHBOUR: 'it returns false'. Refute it at one input. -/
def fnExactExprValidWrong : ChangeSpec := { name := "fnExactExprValid", fn := fun _ => fun
  | [d1, d2, d3] => { results := [.lit (.bool false)], args := [d1, d2, d3] }
  | _ => none }
def FnExactExprValidWrongFalsely : Prop := fnExactExprValidRow.holds Try.pinned (OpenSpec.ofChange fnExactExprValidWrong)

/-- 'laws.FnExactProgramValid': WHATEVER THE INPUT: true; the input reads as it did. -/
def fnExactProgramValidSpec : ChangeSpec := { name := "fnExactProgramValid", fn := fun _ => fun
  | [d] => { results := [.lit (.bool true)], args := [d] }
  | _ => none }
def fnExactProgramValidRow : OpenClaim := { program := "yticoegjackgldaa", sum := "d77e014c86a309d965f9b1b621c30274c1edfbb236cd4575fab0014f7f69133b", func := "loop.example/graphreducer/laws.FnExactProgramValid", spec := "fnExactProgramValid", unfollowed := true, recurses := true, loops := true, plainKeys := false, apart := false }
def FnExactProgramValidSaid : Prop := fnExactProgramValidRow.holds Try.pinned (OpenSpec.ofChange fnExactProgramValidSpec)

/-- ITS FALSE NEIGHBOUR: 'it returns false'. Refute it at one input. -/
def fnExactProgramValidWrong : ChangeSpec := { name := "fnExactProgramValid", fn := fun _ => fun
  | [d] => { results := [.lit (.bool false)], args := [d] }
  | _ => none }
def FnExactProgramValidWrongFalsely : Prop := fnExactProgramValidRow.holds Try.pinned (OpenSpec.ofChange fnExactProgramValidWrong)

/-- 'laws.FnExactExprSame': WHATEVER THE INPUT: true; the input reads as it did. -/
def fnExactExprSameSpec : ChangeSpec := { name := "fnExactExprSame", fn := fun _ => fun
  | [d1, d2] => { results := [.lit (.bool true)], args := [d1, d2] }
  | _ => none }
def fnExactExprSameRow : OpenClaim := { program := "yticoegjackgldaa", sum := "d77e014c86a309d965f9b1b621c30274c1edfbb236cd4575fab0014f7f69133b", func := "loop.example/graphreducer/laws.FnExactExprSame", spec := "fnExactExprSame", recurses := true, loops := true, plainKeys := false, apart := false }
def FnExactExprSameSaid : Prop := fnExactExprSameRow.holds Try.pinned (OpenSpec.ofChange fnExactExprSameSpec)

/-- ITS FALSE NEIGHBOUR: 'it returns false'. Refute it at one input. -/
def fnExactExprSameWrong : ChangeSpec := { name := "fnExactExprSame", fn := fun _ => fun
  | [d1, d2] => { results := [.lit (.bool false)], args := [d1, d2] }
  | _ => none }
def FnExactExprSameWrongFalsely : Prop := fnExactExprSameRow.holds Try.pinned (OpenSpec.ofChange fnExactExprSameWrong)

/-- 'laws.FnExactFormatExpr': WHATEVER THE INPUT: true; the input reads as it did. -/
def fnExactFormatExprSpec : ChangeSpec := { name := "fnExactFormatExpr", fn := fun _ => fun
  | [d] => { results := [.lit (.bool true)], args := [d] }
  | _ => none }
def fnExactFormatExprRow : OpenClaim := { program := "yticoegjackgldaa", sum := "d77e014c86a309d965f9b1b621c30274c1edfbb236cd4575fab0014f7f69133b", func := "loop.example/graphreducer/laws.FnExactFormatExpr", spec := "fnExactFormatExpr", unfollowed := true, recurses := true, loops := true, plainKeys := false, apart := false }
def FnExactFormatExprSaid : Prop := fnExactFormatExprRow.holds Try.pinned (OpenSpec.ofChange fnExactFormatExprSpec)

/-- ITS FALSE NEIGHBOUR: 'it returns false'. Refute it at one input. -/
def fnExactFormatExprWrong : ChangeSpec := { name := "fnExactFormatExpr", fn := fun _ => fun
  | [d] => { results := [.lit (.bool false)], args := [d] }
  | _ => none }
def FnExactFormatExprWrongFalsely : Prop := fnExactFormatExprRow.holds Try.pinned (OpenSpec.ofChange fnExactFormatExprWrong)

/-- 'laws.FnExactParseExpr': WHATEVER THE INPUT: true; the input reads as it did. -/
def fnExactParseExprSpec : ChangeSpec := { name := "fnExactParseExpr", fn := fun _ => fun
  | [d] => { results := [.lit (.bool true)], args := [d] }
  | _ => none }
def fnExactParseExprRow : OpenClaim := { program := "yticoegjackgldaa", sum := "d77e014c86a309d965f9b1b621c30274c1edfbb236cd4575fab0014f7f69133b", func := "loop.example/graphreducer/laws.FnExactParseExpr", spec := "fnExactParseExpr", unfollowed := true, recurses := true, plainKeys := false, apart := false }
def FnExactParseExprSaid : Prop := fnExactParseExprRow.holds Try.pinned (OpenSpec.ofChange fnExactParseExprSpec)

/-- ITS FALSE NEIGHBOUR: 'it returns false'. Refute it at one input. -/
def fnExactParseExprWrong : ChangeSpec := { name := "fnExactParseExpr", fn := fun _ => fun
  | [d] => { results := [.lit (.bool false)], args := [d] }
  | _ => none }
def FnExactParseExprWrongFalsely : Prop := fnExactParseExprRow.holds Try.pinned (OpenSpec.ofChange fnExactParseExprWrong)

/-- 'laws.FnExactSubstExpr': WHATEVER THE INPUT: true; the input reads as it did. -/
def fnExactSubstExprSpec : ChangeSpec := { name := "fnExactSubstExpr", fn := fun _ => fun
  | [d1, d2] => { results := [.lit (.bool true)], args := [d1, d2] }
  | _ => none }
def fnExactSubstExprRow : OpenClaim := { program := "yticoegjackgldaa", sum := "d77e014c86a309d965f9b1b621c30274c1edfbb236cd4575fab0014f7f69133b", func := "loop.example/graphreducer/laws.FnExactSubstExpr", spec := "fnExactSubstExpr", unfollowed := true, recurses := true, loops := true, plainKeys := false, apart := false }
def FnExactSubstExprSaid : Prop := fnExactSubstExprRow.holds Try.pinned (OpenSpec.ofChange fnExactSubstExprSpec)

/-- ITS FALSE NEIGHBOUR: 'it returns false'. Refute it at one input. -/
def fnExactSubstExprWrong : ChangeSpec := { name := "fnExactSubstExpr", fn := fun _ => fun
  | [d1, d2] => { results := [.lit (.bool false)], args := [d1, d2] }
  | _ => none }
def FnExactSubstExprWrongFalsely : Prop := fnExactSubstExprRow.holds Try.pinned (OpenSpec.ofChange fnExactSubstExprWrong)

/-- 'laws.FnExactSizeOf': WHATEVER THE INPUT: true; the input reads as it did. -/
def fnExactSizeOfSpec : ChangeSpec := { name := "fnExactSizeOf", fn := fun _ => fun
  | [d] => { results := [.lit (.bool true)], args := [d] }
  | _ => none }
def fnExactSizeOfRow : OpenClaim := { program := "yticoegjackgldaa", sum := "d77e014c86a309d965f9b1b621c30274c1edfbb236cd4575fab0014f7f69133b", func := "loop.example/graphreducer/laws.FnExactSizeOf", spec := "fnExactSizeOf", unfollowed := true, recurses := true, loops := true, plainKeys := false, apart := false }
def FnExactSizeOfSaid : Prop := fnExactSizeOfRow.holds Try.pinned (OpenSpec.ofChange fnExactSizeOfSpec)

/-- ITS FALSE NEIGHBOUR: 'it returns false'. Refute it at one input. -/
def fnExactSizeOfWrong : ChangeSpec := { name := "fnExactSizeOf", fn := fun _ => fun
  | [d] => { results := [.lit (.bool false)], args := [d] }
  | _ => none }
def FnExactSizeOfWrongFalsely : Prop := fnExactSizeOfRow.holds Try.pinned (OpenSpec.ofChange fnExactSizeOfWrong)

/-- 'laws.FnExactVarsUsed': WHATEVER THE INPUT: true; the input reads as it did. -/
def fnExactVarsUsedSpec : ChangeSpec := { name := "fnExactVarsUsed", fn := fun _ => fun
  | [d1, d2] => { results := [.lit (.bool true)], args := [d1, d2] }
  | _ => none }
def fnExactVarsUsedRow : OpenClaim := { program := "yticoegjackgldaa", sum := "d77e014c86a309d965f9b1b621c30274c1edfbb236cd4575fab0014f7f69133b", func := "loop.example/graphreducer/laws.FnExactVarsUsed", spec := "fnExactVarsUsed", unfollowed := true, recurses := true, loops := true, plainKeys := false, apart := false }
def FnExactVarsUsedSaid : Prop := fnExactVarsUsedRow.holds Try.pinned (OpenSpec.ofChange fnExactVarsUsedSpec)

/-- ITS FALSE NEIGHBOUR: 'it returns false'. Refute it at one input. -/
def fnExactVarsUsedWrong : ChangeSpec := { name := "fnExactVarsUsed", fn := fun _ => fun
  | [d1, d2] => { results := [.lit (.bool false)], args := [d1, d2] }
  | _ => none }
def FnExactVarsUsedWrongFalsely : Prop := fnExactVarsUsedRow.holds Try.pinned (OpenSpec.ofChange fnExactVarsUsedWrong)

/-- 'laws.FnExactIsHead': WHATEVER THE INPUT: true; the input reads as it did. -/
def fnExactIsHeadSpec : ChangeSpec := { name := "fnExactIsHead", fn := fun _ => fun
  | [d1, d2] => { results := [.lit (.bool true)], args := [d1, d2] }
  | _ => none }
def fnExactIsHeadRow : OpenClaim := { program := "yticoegjackgldaa", sum := "d77e014c86a309d965f9b1b621c30274c1edfbb236cd4575fab0014f7f69133b", func := "loop.example/graphreducer/laws.FnExactIsHead", spec := "fnExactIsHead", unfollowed := true, recurses := true, loops := true, plainKeys := false, apart := false }
def FnExactIsHeadSaid : Prop := fnExactIsHeadRow.holds Try.pinned (OpenSpec.ofChange fnExactIsHeadSpec)

/-- ITS FALSE NEIGHBOUR: 'it returns false'. Refute it at one input. -/
def fnExactIsHeadWrong : ChangeSpec := { name := "fnExactIsHead", fn := fun _ => fun
  | [d1, d2] => { results := [.lit (.bool false)], args := [d1, d2] }
  | _ => none }
def FnExactIsHeadWrongFalsely : Prop := fnExactIsHeadRow.holds Try.pinned (OpenSpec.ofChange fnExactIsHeadWrong)

/- THE SECOND FORM. 'bulk': how many values and letters a reading holds, each counted each time it is reached (what is shared counts as often as it is met; a slice's spare places count too). A statement '..UptoSaid' is the law's where the arguments, and the package variables that the reading takes, are together of bulk at most 1048576: NARROWER than '..Said'. Prove '..Said' where nothing that the law and all that it calls make is longer than what came in: it says more and counts as full. Else prove '..UptoSaid'. A law counts once. -/
mutual
def uptoBulk {H : Type} : DataW H → Nat
  | .lit (.string bytes) => bytes.length + 1
  | .lit _ => 1
  | .nil => 1
  | .ptr d => uptoBulk d + 1
  | .slice elems spare => uptoBulkAll elems + uptoBulkAll spare + 1
  | .agg parts => uptoBulkAll parts + 1
  | .iface _ d => uptoBulk d + 1
  | .map entries => uptoBulkEntries entries + 1
  | .held _ => 1
def uptoBulkAll {H : Type} : List (DataW H) → Nat
  | [] => 0
  | d :: r => uptoBulk d + uptoBulkAll r
def uptoBulkEntries {H : Type} : List (Lit × DataW H) → Nat
  | [] => 0
  | x :: r => uptoBulkEntry x + uptoBulkEntries r
def uptoBulkEntry {H : Type} : Lit × DataW H → Nat
  | (.string bytes, d) => bytes.length + uptoBulk d + 1
  | (_, d) => uptoBulk d + 1
 end
def uptoSmall : (H : Type) → List (DataW H) → Bool := fun _ ds => decide (uptoBulkAll ds ≤ 1048576)
def OpenSpec.upto (s : _root_.Go.ChangeSpec) : _root_.Go.OpenSpec := { _root_.Go.OpenSpec.ofChange s with cond := some uptoSmall }

/-- 'laws.FnExactExprValid', WHERE WHAT IT READS IS OF BULK AT MOST 1048576: true; the input reads as it did. -/
def fnExactExprValidUptoRow : OpenClaim := { program := "yticoegjackgldaa", sum := "d77e014c86a309d965f9b1b621c30274c1edfbb236cd4575fab0014f7f69133b", func := "loop.example/graphreducer/laws.FnExactExprValid", spec := "fnExactExprValid", unfollowed := true, recurses := true, loops := true, plainKeys := false, apart := false, narrowed := true }
def FnExactExprValidUptoSaid : Prop := fnExactExprValidUptoRow.holds Try.pinned (OpenSpec.upto fnExactExprValidSpec)

/-- 'laws.FnExactProgramValid', WHERE WHAT IT READS IS OF BULK AT MOST 1048576: true; the input reads as it did. -/
def fnExactProgramValidUptoRow : OpenClaim := { program := "yticoegjackgldaa", sum := "d77e014c86a309d965f9b1b621c30274c1edfbb236cd4575fab0014f7f69133b", func := "loop.example/graphreducer/laws.FnExactProgramValid", spec := "fnExactProgramValid", unfollowed := true, recurses := true, loops := true, plainKeys := false, apart := false, narrowed := true }
def FnExactProgramValidUptoSaid : Prop := fnExactProgramValidUptoRow.holds Try.pinned (OpenSpec.upto fnExactProgramValidSpec)

/-- 'laws.FnExactExprSame', WHERE WHAT IT READS IS OF BULK AT MOST 1048576: true; the input reads as it did. -/
def fnExactExprSameUptoRow : OpenClaim := { program := "yticoegjackgldaa", sum := "d77e014c86a309d965f9b1b621c30274c1edfbb236cd4575fab0014f7f69133b", func := "loop.example/graphreducer/laws.FnExactExprSame", spec := "fnExactExprSame", recurses := true, loops := true, plainKeys := false, apart := false, narrowed := true }
def FnExactExprSameUptoSaid : Prop := fnExactExprSameUptoRow.holds Try.pinned (OpenSpec.upto fnExactExprSameSpec)

/-- 'laws.FnExactFormatExpr', WHERE WHAT IT READS IS OF BULK AT MOST 1048576: true; the input reads as it did. -/
def fnExactFormatExprUptoRow : OpenClaim := { program := "yticoegjackgldaa", sum := "d77e014c86a309d965f9b1b621c30274c1edfbb236cd4575fab0014f7f69133b", func := "loop.example/graphreducer/laws.FnExactFormatExpr", spec := "fnExactFormatExpr", unfollowed := true, recurses := true, loops := true, plainKeys := false, apart := false, narrowed := true }
def FnExactFormatExprUptoSaid : Prop := fnExactFormatExprUptoRow.holds Try.pinned (OpenSpec.upto fnExactFormatExprSpec)

/-- 'laws.FnExactParseExpr', WHERE WHAT IT READS IS OF BULK AT MOST 1048576: true; the input reads as it did. -/
def fnExactParseExprUptoRow : OpenClaim := { program := "yticoegjackgldaa", sum := "d77e014c86a309d965f9b1b621c30274c1edfbb236cd4575fab0014f7f69133b", func := "loop.example/graphreducer/laws.FnExactParseExpr", spec := "fnExactParseExpr", unfollowed := true, recurses := true, plainKeys := false, apart := false, narrowed := true }
def FnExactParseExprUptoSaid : Prop := fnExactParseExprUptoRow.holds Try.pinned (OpenSpec.upto fnExactParseExprSpec)

/-- 'laws.FnExactSubstExpr', WHERE WHAT IT READS IS OF BULK AT MOST 1048576: true; the input reads as it did. -/
def fnExactSubstExprUptoRow : OpenClaim := { program := "yticoegjackgldaa", sum := "d77e014c86a309d965f9b1b621c30274c1edfbb236cd4575fab0014f7f69133b", func := "loop.example/graphreducer/laws.FnExactSubstExpr", spec := "fnExactSubstExpr", unfollowed := true, recurses := true, loops := true, plainKeys := false, apart := false, narrowed := true }
def FnExactSubstExprUptoSaid : Prop := fnExactSubstExprUptoRow.holds Try.pinned (OpenSpec.upto fnExactSubstExprSpec)

/-- 'laws.FnExactSizeOf', WHERE WHAT IT READS IS OF BULK AT MOST 1048576: true; the input reads as it did. -/
def fnExactSizeOfUptoRow : OpenClaim := { program := "yticoegjackgldaa", sum := "d77e014c86a309d965f9b1b621c30274c1edfbb236cd4575fab0014f7f69133b", func := "loop.example/graphreducer/laws.FnExactSizeOf", spec := "fnExactSizeOf", unfollowed := true, recurses := true, loops := true, plainKeys := false, apart := false, narrowed := true }
def FnExactSizeOfUptoSaid : Prop := fnExactSizeOfUptoRow.holds Try.pinned (OpenSpec.upto fnExactSizeOfSpec)

/-- 'laws.FnExactVarsUsed', WHERE WHAT IT READS IS OF BULK AT MOST 1048576: true; the input reads as it did. -/
def fnExactVarsUsedUptoRow : OpenClaim := { program := "yticoegjackgldaa", sum := "d77e014c86a309d965f9b1b621c30274c1edfbb236cd4575fab0014f7f69133b", func := "loop.example/graphreducer/laws.FnExactVarsUsed", spec := "fnExactVarsUsed", unfollowed := true, recurses := true, loops := true, plainKeys := false, apart := false, narrowed := true }
def FnExactVarsUsedUptoSaid : Prop := fnExactVarsUsedUptoRow.holds Try.pinned (OpenSpec.upto fnExactVarsUsedSpec)

/-- 'laws.FnExactIsHead', WHERE WHAT IT READS IS OF BULK AT MOST 1048576: true; the input reads as it did. -/
def fnExactIsHeadUptoRow : OpenClaim := { program := "yticoegjackgldaa", sum := "d77e014c86a309d965f9b1b621c30274c1edfbb236cd4575fab0014f7f69133b", func := "loop.example/graphreducer/laws.FnExactIsHead", spec := "fnExactIsHead", unfollowed := true, recurses := true, loops := true, plainKeys := false, apart := false, narrowed := true }
def FnExactIsHeadUptoSaid : Prop := fnExactIsHeadUptoRow.holds Try.pinned (OpenSpec.upto fnExactIsHeadSpec)

end Rows
end Go.Proofs.Yticoegjackgldaa

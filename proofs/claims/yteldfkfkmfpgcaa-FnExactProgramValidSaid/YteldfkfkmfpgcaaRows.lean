/-
  NARROWER THAN 'FOR EVERY INPUT', by the rows' own cells (each row's printed sentence says how): FnExactExprValid: loops · FnExactProgramValid: loops.
  DERIVED. THE GIVEN ROWS OF THIS SEAT. 10 by the template 'for every input the law returns true; each argument reads behind the call as it read before'; 0 by the template 'total and deterministic' (their statements: YteldfkfkmfpgcaaTotals.lean).
  GIVEN WITH THE SEED: the statements are not yours to turn. If you find one false, say at which input.
  Laid BY PROGRAM, IN A SANDBOX (cutbox-rows.mjs): the forced cells as the released guide's own fill.sh prints them over the translation 6b8a9c97462da834… (all of the seat's roots in one cut). By AI agents, Wed Nov 11 2026. No macro, syntax, notation, axiom, sorry.
-/
import Derived.Test.YteldfkfkmfpgcaaChecked
import GoSem.Claim
import GoSem.ClaimJoined
import GoSem.ClaimMapViews
import Derived.JoinedTies
import Derived.KernelRfl
namespace Go.Proofs.Yteldfkfkmfpgcaa
/- THE CELL 'sum', in the pinned program and in every row, IS THE sha256 OF THE DUMP (.gsa) THAT YteldfkfkmfpgcaaProg.lean LOADS. Nothing in Lean hashes anything: it is a label: what it is worth is what the hold of that sum in a sandbox is worth. -/
noncomputable def Try.pinned : Pinned := { name := "yteldfkfkmfpgcaa", sum := "6b8a9c97462da834d3209f5b2db6d776f5534b02dc754cc0b9d9300f2de1d121", checked := Try.checked }
namespace Rows
def none {H : Type} : Left H := { results := [], args := [] }

/-- 'laws.FnExprText': WHATEVER THE INPUT: true; the input reads as it did. -/
def fnExprTextSpec : ChangeSpec := { name := "fnExprText", fn := fun _ => fun
  | [d1, d2] => { results := [.lit (.bool true)], args := [d1, d2] }
  | _ => none }
def fnExprTextRow : OpenClaim := { program := "yteldfkfkmfpgcaa", sum := "6b8a9c97462da834d3209f5b2db6d776f5534b02dc754cc0b9d9300f2de1d121", func := "loop.example/graphreducer/laws.FnExprText", spec := "fnExprText", unfollowed := true, recurses := true, plainKeys := false, apart := false }
def FnExprTextSaid : Prop := fnExprTextRow.holds Try.pinned (OpenSpec.ofChange fnExprTextSpec)

/-- ITS FALSE NEIGHBOUR: 'it returns false'. Refute it at one input. -/
def fnExprTextWrong : ChangeSpec := { name := "fnExprText", fn := fun _ => fun
  | [d1, d2] => { results := [.lit (.bool false)], args := [d1, d2] }
  | _ => none }
def FnExprTextWrongFalsely : Prop := fnExprTextRow.holds Try.pinned (OpenSpec.ofChange fnExprTextWrong)

/-- 'laws.FnSubstExpr': WHATEVER THE INPUT: true; the input reads as it did. -/
def fnSubstExprSpec : ChangeSpec := { name := "fnSubstExpr", fn := fun _ => fun
  | [d] => { results := [.lit (.bool true)], args := [d] }
  | _ => none }
def fnSubstExprRow : OpenClaim := { program := "yteldfkfkmfpgcaa", sum := "6b8a9c97462da834d3209f5b2db6d776f5534b02dc754cc0b9d9300f2de1d121", func := "loop.example/graphreducer/laws.FnSubstExpr", spec := "fnSubstExpr", unfollowed := true, recurses := true, plainKeys := false, apart := false }
def FnSubstExprSaid : Prop := fnSubstExprRow.holds Try.pinned (OpenSpec.ofChange fnSubstExprSpec)

/-- ITS FALSE NEIGHBOUR: 'it returns false'. Refute it at one input. -/
def fnSubstExprWrong : ChangeSpec := { name := "fnSubstExpr", fn := fun _ => fun
  | [d] => { results := [.lit (.bool false)], args := [d] }
  | _ => none }
def FnSubstExprWrongFalsely : Prop := fnSubstExprRow.holds Try.pinned (OpenSpec.ofChange fnSubstExprWrong)

/-- 'laws.FnExprSame': WHATEVER THE INPUT: true; the input reads as it did. -/
def fnExprSameSpec : ChangeSpec := { name := "fnExprSame", fn := fun _ => fun
  | [d] => { results := [.lit (.bool true)], args := [d] }
  | _ => none }
def fnExprSameRow : OpenClaim := { program := "yteldfkfkmfpgcaa", sum := "6b8a9c97462da834d3209f5b2db6d776f5534b02dc754cc0b9d9300f2de1d121", func := "loop.example/graphreducer/laws.FnExprSame", spec := "fnExprSame", recurses := true, plainKeys := false, apart := false }
def FnExprSameSaid : Prop := fnExprSameRow.holds Try.pinned (OpenSpec.ofChange fnExprSameSpec)

/-- ITS FALSE NEIGHBOUR: 'it returns false'. Refute it at one input. -/
def fnExprSameWrong : ChangeSpec := { name := "fnExprSame", fn := fun _ => fun
  | [d] => { results := [.lit (.bool false)], args := [d] }
  | _ => none }
def FnExprSameWrongFalsely : Prop := fnExprSameRow.holds Try.pinned (OpenSpec.ofChange fnExprSameWrong)

/-- 'laws.FnExprWide': WHATEVER THE INPUT: true; the input reads as it did. -/
def fnExprWideSpec : ChangeSpec := { name := "fnExprWide", fn := fun _ => fun
  | [d] => { results := [.lit (.bool true)], args := [d] }
  | _ => none }
def fnExprWideRow : OpenClaim := { program := "yteldfkfkmfpgcaa", sum := "6b8a9c97462da834d3209f5b2db6d776f5534b02dc754cc0b9d9300f2de1d121", func := "loop.example/graphreducer/laws.FnExprWide", spec := "fnExprWide", unfollowed := true, recurses := true, plainKeys := false, apart := false }
def FnExprWideSaid : Prop := fnExprWideRow.holds Try.pinned (OpenSpec.ofChange fnExprWideSpec)

/-- ITS FALSE NEIGHBOUR: 'it returns false'. Refute it at one input. -/
def fnExprWideWrong : ChangeSpec := { name := "fnExprWide", fn := fun _ => fun
  | [d] => { results := [.lit (.bool false)], args := [d] }
  | _ => none }
def FnExprWideWrongFalsely : Prop := fnExprWideRow.holds Try.pinned (OpenSpec.ofChange fnExprWideWrong)

/-- 'laws.FnSizeOf': WHATEVER THE INPUT: true; the input reads as it did. -/
def fnSizeOfSpec : ChangeSpec := { name := "fnSizeOf", fn := fun _ => fun
  | [d1, d2] => { results := [.lit (.bool true)], args := [d1, d2] }
  | _ => none }
def fnSizeOfRow : OpenClaim := { program := "yteldfkfkmfpgcaa", sum := "6b8a9c97462da834d3209f5b2db6d776f5534b02dc754cc0b9d9300f2de1d121", func := "loop.example/graphreducer/laws.FnSizeOf", spec := "fnSizeOf", unfollowed := true, recurses := true, plainKeys := false, apart := false }
def FnSizeOfSaid : Prop := fnSizeOfRow.holds Try.pinned (OpenSpec.ofChange fnSizeOfSpec)

/-- ITS FALSE NEIGHBOUR: 'it returns false'. Refute it at one input. -/
def fnSizeOfWrong : ChangeSpec := { name := "fnSizeOf", fn := fun _ => fun
  | [d1, d2] => { results := [.lit (.bool false)], args := [d1, d2] }
  | _ => none }
def FnSizeOfWrongFalsely : Prop := fnSizeOfRow.holds Try.pinned (OpenSpec.ofChange fnSizeOfWrong)

/-- 'laws.FnSubstNone': WHATEVER THE INPUT: true; the input reads as it did. -/
def fnSubstNoneSpec : ChangeSpec := { name := "fnSubstNone", fn := fun _ => fun
  | [d] => { results := [.lit (.bool true)], args := [d] }
  | _ => none }
def fnSubstNoneRow : OpenClaim := { program := "yteldfkfkmfpgcaa", sum := "6b8a9c97462da834d3209f5b2db6d776f5534b02dc754cc0b9d9300f2de1d121", func := "loop.example/graphreducer/laws.FnSubstNone", spec := "fnSubstNone", unfollowed := true, recurses := true, plainKeys := false, apart := false }
def FnSubstNoneSaid : Prop := fnSubstNoneRow.holds Try.pinned (OpenSpec.ofChange fnSubstNoneSpec)

/-- ITS FALSE NEIGHBOUR: 'it returns false'. Refute it at one input. -/
def fnSubstNoneWrong : ChangeSpec := { name := "fnSubstNone", fn := fun _ => fun
  | [d] => { results := [.lit (.bool false)], args := [d] }
  | _ => none }
def FnSubstNoneWrongFalsely : Prop := fnSubstNoneRow.holds Try.pinned (OpenSpec.ofChange fnSubstNoneWrong)

/-- 'laws.FnSubstOwn': WHATEVER THE INPUT: true; the input reads as it did. -/
def fnSubstOwnSpec : ChangeSpec := { name := "fnSubstOwn", fn := fun _ => fun
  | [d] => { results := [.lit (.bool true)], args := [d] }
  | _ => none }
def fnSubstOwnRow : OpenClaim := { program := "yteldfkfkmfpgcaa", sum := "6b8a9c97462da834d3209f5b2db6d776f5534b02dc754cc0b9d9300f2de1d121", func := "loop.example/graphreducer/laws.FnSubstOwn", spec := "fnSubstOwn", unfollowed := true, recurses := true, plainKeys := false, apart := false }
def FnSubstOwnSaid : Prop := fnSubstOwnRow.holds Try.pinned (OpenSpec.ofChange fnSubstOwnSpec)

/-- ITS FALSE NEIGHBOUR: 'it returns false'. Refute it at one input. -/
def fnSubstOwnWrong : ChangeSpec := { name := "fnSubstOwn", fn := fun _ => fun
  | [d] => { results := [.lit (.bool false)], args := [d] }
  | _ => none }
def FnSubstOwnWrongFalsely : Prop := fnSubstOwnRow.holds Try.pinned (OpenSpec.ofChange fnSubstOwnWrong)

/-- 'laws.FnExprParts': WHATEVER THE INPUT: true; the input reads as it did. -/
def fnExprPartsSpec : ChangeSpec := { name := "fnExprParts", fn := fun _ => fun
  | [d] => { results := [.lit (.bool true)], args := [d] }
  | _ => none }
def fnExprPartsRow : OpenClaim := { program := "yteldfkfkmfpgcaa", sum := "6b8a9c97462da834d3209f5b2db6d776f5534b02dc754cc0b9d9300f2de1d121", func := "loop.example/graphreducer/laws.FnExprParts", spec := "fnExprParts", unfollowed := true, recurses := true, plainKeys := false, apart := false }
def FnExprPartsSaid : Prop := fnExprPartsRow.holds Try.pinned (OpenSpec.ofChange fnExprPartsSpec)

/-- ITS FALSE NEIGHBOUR: 'it returns false'. Refute it at one input. -/
def fnExprPartsWrong : ChangeSpec := { name := "fnExprParts", fn := fun _ => fun
  | [d] => { results := [.lit (.bool false)], args := [d] }
  | _ => none }
def FnExprPartsWrongFalsely : Prop := fnExprPartsRow.holds Try.pinned (OpenSpec.ofChange fnExprPartsWrong)

/-- 'laws.FnExactExprValid': WHATEVER THE INPUT: true; the input reads as it did. -/
def fnExactExprValidSpec : ChangeSpec := { name := "fnExactExprValid", fn := fun _ => fun
  | [d1, d2, d3] => { results := [.lit (.bool true)], args := [d1, d2, d3] }
  | _ => none }
def fnExactExprValidRow : OpenClaim := { program := "yteldfkfkmfpgcaa", sum := "6b8a9c97462da834d3209f5b2db6d776f5534b02dc754cc0b9d9300f2de1d121", func := "loop.example/graphreducer/laws.FnExactExprValid", spec := "fnExactExprValid", unfollowed := true, recurses := true, loops := true, plainKeys := false, apart := false }
def FnExactExprValidSaid : Prop := fnExactExprValidRow.holds Try.pinned (OpenSpec.ofChange fnExactExprValidSpec)

/-- ITS FALSE NEIGHBOUR: 'it returns false'. Refute it at one input. -/
def fnExactExprValidWrong : ChangeSpec := { name := "fnExactExprValid", fn := fun _ => fun
  | [d1, d2, d3] => { results := [.lit (.bool false)], args := [d1, d2, d3] }
  | _ => none }
def FnExactExprValidWrongFalsely : Prop := fnExactExprValidRow.holds Try.pinned (OpenSpec.ofChange fnExactExprValidWrong)

/-- 'laws.FnExactProgramValid': WHATEVER THE INPUT: true; the input reads as it did. -/
def fnExactProgramValidSpec : ChangeSpec := { name := "fnExactProgramValid", fn := fun _ => fun
  | [d] => { results := [.lit (.bool true)], args := [d] }
  | _ => none }
def fnExactProgramValidRow : OpenClaim := { program := "yteldfkfkmfpgcaa", sum := "6b8a9c97462da834d3209f5b2db6d776f5534b02dc754cc0b9d9300f2de1d121", func := "loop.example/graphreducer/laws.FnExactProgramValid", spec := "fnExactProgramValid", unfollowed := true, recurses := true, loops := true, plainKeys := false, apart := false }
def FnExactProgramValidSaid : Prop := fnExactProgramValidRow.holds Try.pinned (OpenSpec.ofChange fnExactProgramValidSpec)

/-- ITS FALSE NEIGHBOUR: 'it returns false'. Refute it at one input. -/
def fnExactProgramValidWrong : ChangeSpec := { name := "fnExactProgramValid", fn := fun _ => fun
  | [d] => { results := [.lit (.bool false)], args := [d] }
  | _ => none }
def FnExactProgramValidWrongFalsely : Prop := fnExactProgramValidRow.holds Try.pinned (OpenSpec.ofChange fnExactProgramValidWrong)

/- THE SECOND FORM. 'bulk': how many values and letters a reading holds, each counted each time it is reached (what is shared counts as often as it is met; a slice's spare places count too). A statement '..UptoSaid' is the law's where the arguments, and the package variables that the reading takes, are together of bulk at most 1048576: NARROWER than '..Said'. Prove '..Said' where nothing that the law and all that it calls make is longer than what came in: it says more and counts as full. Else prove '..UptoSaid'. A law counts once. -/
mutual
def uptoBulk {H : Type} : DataW H → Nat
  | .lit (.string bytes) => bytes.length + 1
  | .lit _ => 1
  | .nil => 1
  | .ptr d => uptoBulk d + 1
  | .slice elems spare => uptoBulkAll elems + uptoBulkAll spare + 1
  | .agg parts => uptoBulkAll parts + 1
  | .iface _ d => uptoBulk d + 1
  | .map entries => uptoBulkEntries entries + 1
  | .held _ => 1
def uptoBulkAll {H : Type} : List (DataW H) → Nat
  | [] => 0
  | d :: r => uptoBulk d + uptoBulkAll r
def uptoBulkEntries {H : Type} : List (Lit × DataW H) → Nat
  | [] => 0
  | x :: r => uptoBulkEntry x + uptoBulkEntries r
def uptoBulkEntry {H : Type} : Lit × DataW H → Nat
  | (.string bytes, d) => bytes.length + uptoBulk d + 1
  | (_, d) => uptoBulk d + 1
 end
def uptoSmall : (H : Type) → List (DataW H) → Bool := fun _ ds => decide (uptoBulkAll ds ≤ 1048576)
def OpenSpec.upto (s : _root_.Go.ChangeSpec) : _root_.Go.OpenSpec := { _root_.Go.OpenSpec.ofChange s with cond := some uptoSmall }

/-- 'laws.FnExprText', WHERE WHAT IT READS IS OF BULK AT MOST 1048576: true; the input reads as it did. -/
def fnExprTextUptoRow : OpenClaim := { program := "yteldfkfkmfpgcaa", sum := "6b8a9c97462da834d3209f5b2db6d776f5534b02dc754cc0b9d9300f2de1d121", func := "loop.example/graphreducer/laws.FnExprText", spec := "fnExprText", unfollowed := true, recurses := true, plainKeys := false, apart := false, narrowed := true }
def FnExprTextUptoSaid : Prop := fnExprTextUptoRow.holds Try.pinned (OpenSpec.upto fnExprTextSpec)

/-- 'laws.FnSubstExpr', WHERE WHAT IT READS IS OF BULK AT MOST 1048576: true; the input reads as it did. -/
def fnSubstExprUptoRow : OpenClaim := { program := "yteldfkfkmfpgcaa", sum := "6b8a9c97462da834d3209f5b2db6d776f5534b02dc754cc0b9d9300f2de1d121", func := "loop.example/graphreducer/laws.FnSubstExpr", spec := "fnSubstExpr", unfollowed := true, recurses := true, plainKeys := false, apart := false, narrowed := true }
def FnSubstExprUptoSaid : Prop := fnSubstExprUptoRow.holds Try.pinned (OpenSpec.upto fnSubstExprSpec)

/-- 'laws.FnExprSame', WHERE WHAT IT READS IS OF BULK AT MOST 1048576: true; the input reads as it did. -/
def fnExprSameUptoRow : OpenClaim := { program := "yteldfkfkmfpgcaa", sum := "6b8a9c97462da834d3209f5b2db6d776f5534b02dc754cc0b9d9300f2de1d121", func := "loop.example/graphreducer/laws.FnExprSame", spec := "fnExprSame", recurses := true, plainKeys := false, apart := false, narrowed := true }
def FnExprSameUptoSaid : Prop := fnExprSameUptoRow.holds Try.pinned (OpenSpec.upto fnExprSameSpec)

/-- 'laws.FnExprWide', WHERE WHAT IT READS IS OF BULK AT MOST 1048576: true; the input reads as it did. -/
def fnExprWideUptoRow : OpenClaim := { program := "yteldfkfkmfpgcaa", sum := "6b8a9c97462da834d3209f5b2db6d776f5534b02dc754cc0b9d9300f2de1d121", func := "loop.example/graphreducer/laws.FnExprWide", spec := "fnExprWide", unfollowed := true, recurses := true, plainKeys := false, apart := false, narrowed := true }
def FnExprWideUptoSaid : Prop := fnExprWideUptoRow.holds Try.pinned (OpenSpec.upto fnExprWideSpec)

/-- 'laws.FnSizeOf', WHERE WHAT IT READS IS OF BULK AT MOST 1048576: true; the input reads as it did. -/
def fnSizeOfUptoRow : OpenClaim := { program := "yteldfkfkmfpgcaa", sum := "6b8a9c97462da834d3209f5b2db6d776f5534b02dc754cc0b9d9300f2de1d121", func := "loop.example/graphreducer/laws.FnSizeOf", spec := "fnSizeOf", unfollowed := true, recurses := true, plainKeys := false, apart := false, narrowed := true }
def FnSizeOfUptoSaid : Prop := fnSizeOfUptoRow.holds Try.pinned (OpenSpec.upto fnSizeOfSpec)

/-- 'laws.FnSubstNone', WHERE WHAT IT READS IS OF BULK AT MOST 1048576: true; the input reads as it did. -/
def fnSubstNoneUptoRow : OpenClaim := { program := "yteldfkfkmfpgcaa", sum := "6b8a9c97462da834d3209f5b2db6d776f5534b02dc754cc0b9d9300f2de1d121", func := "loop.example/graphreducer/laws.FnSubstNone", spec := "fnSubstNone", unfollowed := true, recurses := true, plainKeys := false, apart := false, narrowed := true }
def FnSubstNoneUptoSaid : Prop := fnSubstNoneUptoRow.holds Try.pinned (OpenSpec.upto fnSubstNoneSpec)

/-- 'laws.FnSubstOwn', WHERE WHAT IT READS IS OF BULK AT MOST 1048576: true; the input reads as it did. -/
def fnSubstOwnUptoRow : OpenClaim := { program := "yteldfkfkmfpgcaa", sum := "6b8a9c97462da834d3209f5b2db6d776f5534b02dc754cc0b9d9300f2de1d121", func := "loop.example/graphreducer/laws.FnSubstOwn", spec := "fnSubstOwn", unfollowed := true, recurses := true, plainKeys := false, apart := false, narrowed := true }
def FnSubstOwnUptoSaid : Prop := fnSubstOwnUptoRow.holds Try.pinned (OpenSpec.upto fnSubstOwnSpec)

/-- 'laws.FnExprParts', WHERE WHAT IT READS IS OF BULK AT MOST 1048576: true; the input reads as it did. -/
def fnExprPartsUptoRow : OpenClaim := { program := "yteldfkfkmfpgcaa", sum := "6b8a9c97462da834d3209f5b2db6d776f5534b02dc754cc0b9d9300f2de1d121", func := "loop.example/graphreducer/laws.FnExprParts", spec := "fnExprParts", unfollowed := true, recurses := true, plainKeys := false, apart := false, narrowed := true }
def FnExprPartsUptoSaid : Prop := fnExprPartsUptoRow.holds Try.pinned (OpenSpec.upto fnExprPartsSpec)

/-- 'laws.FnExactExprValid', WHERE WHAT IT READS IS OF BULK AT MOST 1048576: true; the input reads as it did. -/
def fnExactExprValidUptoRow : OpenClaim := { program := "yteldfkfkmfpgcaa", sum := "6b8a9c97462da834d3209f5b2db6d776f5534b02dc754cc0b9d9300f2de1d121", func := "loop.example/graphreducer/laws.FnExactExprValid", spec := "fnExactExprValid", unfollowed := true, recurses := true, loops := true, plainKeys := false, apart := false, narrowed := true }
def FnExactExprValidUptoSaid : Prop := fnExactExprValidUptoRow.holds Try.pinned (OpenSpec.upto fnExactExprValidSpec)

/-- 'laws.FnExactProgramValid', WHERE WHAT IT READS IS OF BULK AT MOST 1048576: true; the input reads as it did. -/
def fnExactProgramValidUptoRow : OpenClaim := { program := "yteldfkfkmfpgcaa", sum := "6b8a9c97462da834d3209f5b2db6d776f5534b02dc754cc0b9d9300f2de1d121", func := "loop.example/graphreducer/laws.FnExactProgramValid", spec := "fnExactProgramValid", unfollowed := true, recurses := true, loops := true, plainKeys := false, apart := false, narrowed := true }
def FnExactProgramValidUptoSaid : Prop := fnExactProgramValidUptoRow.holds Try.pinned (OpenSpec.upto fnExactProgramValidSpec)

end Rows
end Go.Proofs.Yteldfkfkmfpgcaa

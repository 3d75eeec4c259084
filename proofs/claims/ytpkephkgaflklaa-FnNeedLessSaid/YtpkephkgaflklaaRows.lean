/-
  No cell of these rows narrows 'for every input' (looked for: loops, veiled, ifaces, maps, wideKeys, modest, calm, conditions, laid).
  DERIVED. THE GIVEN ROWS OF THIS SEAT. 4 by the template 'for every input the law returns true; each argument reads behind the call as it read before'; 0 by the template 'total and deterministic' (their statements: YtpkephkgaflklaaTotals.lean).
  GIVEN WITH THE SEED: the statements are not yours to turn. If you find one false, say at which input.
  Laid BY PROGRAM, IN A SANDBOX (cutbox-rows.mjs): the forced cells as the released guide's own fill.sh prints them over the translation 07965198d97edca5… (all of the seat's roots in one cut). By AI agents, Wed Nov 11 2026. No macro, syntax, notation, axiom, sorry.
-/
import Derived.Test.YtpkephkgaflklaaChecked
import GoSem.Claim
import GoSem.ClaimJoined
import GoSem.ClaimMapViews
import Derived.JoinedTies
import Derived.KernelRfl
namespace Go.Proofs.Ytpkephkgaflklaa
/- THE CELL 'sum', in the pinned program and in every row, IS THE sha256 OF THE DUMP (.gsa) THAT YtpkephkgaflklaaProg.lean LOADS. Nothing in Lean hashes anything: it is a label: what it is worth is what the hold of that sum in a sandbox is worth. -/
noncomputable def Try.pinned : Pinned := { name := "ytpkephkgaflklaa", sum := "07965198d97edca519f1ea2abcf04f29077dbab20236f348db1024adf9ab9a56", checked := Try.checked }
namespace Rows
def none {H : Type} : Left H := { results := [], args := [] }

/-- 'laws.FnNeedLess': WHATEVER THE INPUT: true; the input reads as it did. -/
def fnNeedLessSpec : ChangeSpec := { name := "fnNeedLess", fn := fun _ => fun
  | [d] => { results := [.lit (.bool true)], args := [d] }
  | _ => none }
def fnNeedLessRow : OpenClaim := { program := "ytpkephkgaflklaa", sum := "07965198d97edca519f1ea2abcf04f29077dbab20236f348db1024adf9ab9a56", func := "loop.example/graphreducer/laws.FnNeedLess", spec := "fnNeedLess", unfollowed := true, recurses := true, apart := false }
def FnNeedLessSaid : Prop := fnNeedLessRow.holds Try.pinned (OpenSpec.ofChange fnNeedLessSpec)

/-- ITS FALSE NEIGHBOUR: 'it returns false'. Refute it at one input. -/
def fnNeedLessWrong : ChangeSpec := { name := "fnNeedLess", fn := fun _ => fun
  | [d] => { results := [.lit (.bool false)], args := [d] }
  | _ => none }
def FnNeedLessWrongFalsely : Prop := fnNeedLessRow.holds Try.pinned (OpenSpec.ofChange fnNeedLessWrong)

/-- 'laws.FnExecCode': WHATEVER THE INPUT: true; the input reads as it did. -/
def fnExecCodeSpec : ChangeSpec := { name := "fnExecCode", fn := fun _ => fun
  | [d] => { results := [.lit (.bool true)], args := [d] }
  | _ => none }
def fnExecCodeRow : OpenClaim := { program := "ytpkephkgaflklaa", sum := "07965198d97edca519f1ea2abcf04f29077dbab20236f348db1024adf9ab9a56", func := "loop.example/graphreducer/laws.FnExecCode", spec := "fnExecCode", unfollowed := true, recurses := true, apart := false }
def FnExecCodeSaid : Prop := fnExecCodeRow.holds Try.pinned (OpenSpec.ofChange fnExecCodeSpec)

/-- ITS FALSE NEIGHBOUR: 'it returns false'. Refute it at one input. -/
def fnExecCodeWrong : ChangeSpec := { name := "fnExecCode", fn := fun _ => fun
  | [d] => { results := [.lit (.bool false)], args := [d] }
  | _ => none }
def FnExecCodeWrongFalsely : Prop := fnExecCodeRow.holds Try.pinned (OpenSpec.ofChange fnExecCodeWrong)

/-- 'laws.FnCodeParts': WHATEVER THE INPUT: true; the input reads as it did. -/
def fnCodePartsSpec : ChangeSpec := { name := "fnCodeParts", fn := fun _ => fun
  | [d] => { results := [.lit (.bool true)], args := [d] }
  | _ => none }
def fnCodePartsRow : OpenClaim := { program := "ytpkephkgaflklaa", sum := "07965198d97edca519f1ea2abcf04f29077dbab20236f348db1024adf9ab9a56", func := "loop.example/graphreducer/laws.FnCodeParts", spec := "fnCodeParts", unfollowed := true, recurses := true, apart := false }
def FnCodePartsSaid : Prop := fnCodePartsRow.holds Try.pinned (OpenSpec.ofChange fnCodePartsSpec)

/-- ITS FALSE NEIGHBOUR: 'it returns false'. Refute it at one input. -/
def fnCodePartsWrong : ChangeSpec := { name := "fnCodeParts", fn := fun _ => fun
  | [d] => { results := [.lit (.bool false)], args := [d] }
  | _ => none }
def FnCodePartsWrongFalsely : Prop := fnCodePartsRow.holds Try.pinned (OpenSpec.ofChange fnCodePartsWrong)

/-- 'laws.FnExecStack': WHATEVER THE INPUT: true; the input reads as it did. -/
def fnExecStackSpec : ChangeSpec := { name := "fnExecStack", fn := fun _ => fun
  | [d] => { results := [.lit (.bool true)], args := [d] }
  | _ => none }
def fnExecStackRow : OpenClaim := { program := "ytpkephkgaflklaa", sum := "07965198d97edca519f1ea2abcf04f29077dbab20236f348db1024adf9ab9a56", func := "loop.example/graphreducer/laws.FnExecStack", spec := "fnExecStack", unfollowed := true, recurses := true, apart := false }
def FnExecStackSaid : Prop := fnExecStackRow.holds Try.pinned (OpenSpec.ofChange fnExecStackSpec)

/-- ITS FALSE NEIGHBOUR: 'it returns false'. Refute it at one input. -/
def fnExecStackWrong : ChangeSpec := { name := "fnExecStack", fn := fun _ => fun
  | [d] => { results := [.lit (.bool false)], args := [d] }
  | _ => none }
def FnExecStackWrongFalsely : Prop := fnExecStackRow.holds Try.pinned (OpenSpec.ofChange fnExecStackWrong)

/- THE SECOND FORM. 'bulk': how many values and letters a reading holds, each counted each time it is reached (what is shared counts as often as it is met; a slice's spare places count too). A statement '..UptoSaid' is the law's where the arguments, and the package variables that the reading takes, are together of bulk at most 1048576: NARROWER than '..Said'. Prove '..Said' where nothing that the law and all that it calls make is longer than what came in: it says more and counts as full. Else prove '..UptoSaid'. A law counts once. -/
mutual
def uptoBulk {H : Type} : DataW H → Nat
  | .lit (.string bytes) => bytes.length + 1
  | .lit _ => 1
  | .nil => 1
  | .ptr d => uptoBulk d + 1
  | .slice elems spare => uptoBulkAll elems + uptoBulkAll spare + 1
  | .agg parts => uptoBulkAll parts + 1
  | .iface _ d => uptoBulk d + 1
  | .map entries => uptoBulkEntries entries + 1
  | .held _ => 1
def uptoBulkAll {H : Type} : List (DataW H) → Nat
  | [] => 0
  | d :: r => uptoBulk d + uptoBulkAll r
def uptoBulkEntries {H : Type} : List (Lit × DataW H) → Nat
  | [] => 0
  | x :: r => uptoBulkEntry x + uptoBulkEntries r
def uptoBulkEntry {H : Type} : Lit × DataW H → Nat
  | (.string bytes, d) => bytes.length + uptoBulk d + 1
  | (_, d) => uptoBulk d + 1
 end
def uptoSmall : (H : Type) → List (DataW H) → Bool := fun _ ds => decide (uptoBulkAll ds ≤ 1048576)
def OpenSpec.upto (s : _root_.Go.ChangeSpec) : _root_.Go.OpenSpec := { _root_.Go.OpenSpec.ofChange s with cond := some uptoSmall }

/-- 'laws.FnNeedLess', WHERE WHAT IT READS IS OF BULK AT MOST 1048576: true; the input reads as it did. -/
def fnNeedLessUptoRow : OpenClaim := { program := "ytpkephkgaflklaa", sum := "07965198d97edca519f1ea2abcf04f29077dbab20236f348db1024adf9ab9a56", func := "loop.example/graphreducer/laws.FnNeedLess", spec := "fnNeedLess", unfollowed := true, recurses := true, apart := false, narrowed := true }
def FnNeedLessUptoSaid : Prop := fnNeedLessUptoRow.holds Try.pinned (OpenSpec.upto fnNeedLessSpec)

/-- 'laws.FnExecCode', WHERE WHAT IT READS IS OF BULK AT MOST 1048576: true; the input reads as it did. -/
def fnExecCodeUptoRow : OpenClaim := { program := "ytpkephkgaflklaa", sum := "07965198d97edca519f1ea2abcf04f29077dbab20236f348db1024adf9ab9a56", func := "loop.example/graphreducer/laws.FnExecCode", spec := "fnExecCode", unfollowed := true, recurses := true, apart := false, narrowed := true }
def FnExecCodeUptoSaid : Prop := fnExecCodeUptoRow.holds Try.pinned (OpenSpec.upto fnExecCodeSpec)

/-- 'laws.FnCodeParts', WHERE WHAT IT READS IS OF BULK AT MOST 1048576: true; the input reads as it did. -/
def fnCodePartsUptoRow : OpenClaim := { program := "ytpkephkgaflklaa", sum := "07965198d97edca519f1ea2abcf04f29077dbab20236f348db1024adf9ab9a56", func := "loop.example/graphreducer/laws.FnCodeParts", spec := "fnCodeParts", unfollowed := true, recurses := true, apart := false, narrowed := true }
def FnCodePartsUptoSaid : Prop := fnCodePartsUptoRow.holds Try.pinned (OpenSpec.upto fnCodePartsSpec)

/-- 'laws.FnExecStack', WHERE WHAT IT READS IS OF BULK AT MOST 1048576: true; the input reads as it did. -/
def fnExecStackUptoRow : OpenClaim := { program := "ytpkephkgaflklaa", sum := "07965198d97edca519f1ea2abcf04f29077dbab20236f348db1024adf9ab9a56", func := "loop.example/graphreducer/laws.FnExecStack", spec := "fnExecStack", unfollowed := true, recurses := true, apart := false, narrowed := true }
def FnExecStackUptoSaid : Prop := fnExecStackUptoRow.holds Try.pinned (OpenSpec.upto fnExecStackSpec)

end Rows
end Go.Proofs.Ytpkephkgaflklaa

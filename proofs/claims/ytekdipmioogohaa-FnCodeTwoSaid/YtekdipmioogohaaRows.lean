/-
  No cell of these rows narrows 'for every input' (looked for: loops, veiled, ifaces, maps, wideKeys, modest, calm, conditions, laid).
  DERIVED. THE GIVEN ROWS OF THIS SEAT. 4 by the template 'for every input the law returns true; each argument reads behind the call as it read before'; 0 by the template 'total and deterministic' (their statements: YtekdipmioogohaaTotals.lean).
  GIVEN WITH THE SEED: the statements are not yours to turn. If you find one false, say at which input.
  Laid BY PROGRAM, IN A SANDBOX (cutbox-rows.mjs): the forced cells as the released guide's own fill.sh prints them over the translation 8d2889479337681e… (all of the seat's roots in one cut). By AI agents, Wed Nov 11 2026. No macro, syntax, notation, axiom, sorry.
-/
import Derived.Test.YtekdipmioogohaaChecked
import GoSem.Claim
import GoSem.ClaimJoined
import GoSem.ClaimMapViews
import Derived.JoinedTies
import Derived.KernelRfl
namespace Go.Proofs.Ytekdipmioogohaa
/- THE CELL 'sum', in the pinned program and in every row, IS THE sha256 OF THE DUMP (.gsa) THAT YtekdipmioogohaaProg.lean LOADS. Nothing in Lean hashes anything: it is a label: what it is worth is what the hold of that sum in a sandbox is worth. -/
noncomputable def Try.pinned : Pinned := { name := "ytekdipmioogohaa", sum := "8d2889479337681e03878dfe8ed0239935216ee0e03f042a097dcd7a6222f524", checked := Try.checked }
namespace Rows
def none {H : Type} : Left H := { results := [], args := [] }

/-- 'laws.FnStackOf': WHATEVER THE INPUT: true; the input reads as it did. -/
def fnStackOfSpec : ChangeSpec := { name := "fnStackOf", fn := fun _ => fun
  | [d] => { results := [.lit (.bool true)], args := [d] }
  | _ => none }
def fnStackOfRow : OpenClaim := { program := "ytekdipmioogohaa", sum := "8d2889479337681e03878dfe8ed0239935216ee0e03f042a097dcd7a6222f524", func := "loop.example/graphreducer/laws.FnStackOf", spec := "fnStackOf", recurses := true, plainKeys := false, apart := false }
def FnStackOfSaid : Prop := fnStackOfRow.holds Try.pinned (OpenSpec.ofChange fnStackOfSpec)

/-- ITS FALSE NEIGHBOUR: 'it returns false'. Refute it at one input. -/
def fnStackOfWrong : ChangeSpec := { name := "fnStackOf", fn := fun _ => fun
  | [d] => { results := [.lit (.bool false)], args := [d] }
  | _ => none }
def FnStackOfWrongFalsely : Prop := fnStackOfRow.holds Try.pinned (OpenSpec.ofChange fnStackOfWrong)

/-- 'laws.FnCodeValid': WHATEVER THE INPUT: true; the input reads as it did. -/
def fnCodeValidSpec : ChangeSpec := { name := "fnCodeValid", fn := fun _ => fun
  | [d] => { results := [.lit (.bool true)], args := [d] }
  | _ => none }
def fnCodeValidRow : OpenClaim := { program := "ytekdipmioogohaa", sum := "8d2889479337681e03878dfe8ed0239935216ee0e03f042a097dcd7a6222f524", func := "loop.example/graphreducer/laws.FnCodeValid", spec := "fnCodeValid", unfollowed := true, recurses := true, plainKeys := false, apart := false }
def FnCodeValidSaid : Prop := fnCodeValidRow.holds Try.pinned (OpenSpec.ofChange fnCodeValidSpec)

/-- ITS FALSE NEIGHBOUR: 'it returns false'. Refute it at one input. -/
def fnCodeValidWrong : ChangeSpec := { name := "fnCodeValid", fn := fun _ => fun
  | [d] => { results := [.lit (.bool false)], args := [d] }
  | _ => none }
def FnCodeValidWrongFalsely : Prop := fnCodeValidRow.holds Try.pinned (OpenSpec.ofChange fnCodeValidWrong)

/-- 'laws.FnCodeWide': WHATEVER THE INPUT: true; the input reads as it did. -/
def fnCodeWideSpec : ChangeSpec := { name := "fnCodeWide", fn := fun _ => fun
  | [d] => { results := [.lit (.bool true)], args := [d] }
  | _ => none }
def fnCodeWideRow : OpenClaim := { program := "ytekdipmioogohaa", sum := "8d2889479337681e03878dfe8ed0239935216ee0e03f042a097dcd7a6222f524", func := "loop.example/graphreducer/laws.FnCodeWide", spec := "fnCodeWide", unfollowed := true, recurses := true, plainKeys := false, apart := false }
def FnCodeWideSaid : Prop := fnCodeWideRow.holds Try.pinned (OpenSpec.ofChange fnCodeWideSpec)

/-- ITS FALSE NEIGHBOUR: 'it returns false'. Refute it at one input. -/
def fnCodeWideWrong : ChangeSpec := { name := "fnCodeWide", fn := fun _ => fun
  | [d] => { results := [.lit (.bool false)], args := [d] }
  | _ => none }
def FnCodeWideWrongFalsely : Prop := fnCodeWideRow.holds Try.pinned (OpenSpec.ofChange fnCodeWideWrong)

/-- 'laws.FnCodeTwo': WHATEVER THE INPUT: true; the input reads as it did. -/
def fnCodeTwoSpec : ChangeSpec := { name := "fnCodeTwo", fn := fun _ => fun
  | [d] => { results := [.lit (.bool true)], args := [d] }
  | _ => none }
def fnCodeTwoRow : OpenClaim := { program := "ytekdipmioogohaa", sum := "8d2889479337681e03878dfe8ed0239935216ee0e03f042a097dcd7a6222f524", func := "loop.example/graphreducer/laws.FnCodeTwo", spec := "fnCodeTwo", unfollowed := true, recurses := true, plainKeys := false, apart := false }
def FnCodeTwoSaid : Prop := fnCodeTwoRow.holds Try.pinned (OpenSpec.ofChange fnCodeTwoSpec)

/-- ITS FALSE NEIGHBOUR: 'it returns false'. Refute it at one input. -/
def fnCodeTwoWrong : ChangeSpec := { name := "fnCodeTwo", fn := fun _ => fun
  | [d] => { results := [.lit (.bool false)], args := [d] }
  | _ => none }
def FnCodeTwoWrongFalsely : Prop := fnCodeTwoRow.holds Try.pinned (OpenSpec.ofChange fnCodeTwoWrong)

/- THE SECOND FORM. 'bulk': how many values and letters a reading holds, each counted each time it is reached (what is shared counts as often as it is met; a slice's spare places count too). A statement '..UptoSaid' is the law's where the arguments, and the package variables that the reading takes, are together of bulk at most 1048576: NARROWER than '..Said'. Prove '..Said' where nothing that the law and all that it calls make is longer than what came in: it says more and counts as full. Else prove '..UptoSaid'. A law counts once. -/
mutual
def uptoBulk {H : Type} : DataW H → Nat
  | .lit (.string bytes) => bytes.length + 1
  | .lit _ => 1
  | .nil => 1
  | .ptr d => uptoBulk d + 1
  | .slice elems spare => uptoBulkAll elems + uptoBulkAll spare + 1
  | .agg parts => uptoBulkAll parts + 1
  | .iface _ d => uptoBulk d + 1
  | .map entries => uptoBulkEntries entries + 1
  | .held _ => 1
def uptoBulkAll {H : Type} : List (DataW H) → Nat
  | [] => 0
  | d :: r => uptoBulk d + uptoBulkAll r
def uptoBulkEntries {H : Type} : List (Lit × DataW H) → Nat
  | [] => 0
  | x :: r => uptoBulkEntry x + uptoBulkEntries r
def uptoBulkEntry {H : Type} : Lit × DataW H → Nat
  | (.string bytes, d) => bytes.length + uptoBulk d + 1
  | (_, d) => uptoBulk d + 1
 end
def uptoSmall : (H : Type) → List (DataW H) → Bool := fun _ ds => decide (uptoBulkAll ds ≤ 1048576)
def OpenSpec.upto (s : _root_.Go.ChangeSpec) : _root_.Go.OpenSpec := { _root_.Go.OpenSpec.ofChange s with cond := some uptoSmall }

/-- 'laws.FnStackOf', WHERE WHAT IT READS IS OF BULK AT MOST 1048576: true; the input reads as it did. -/
def fnStackOfUptoRow : OpenClaim := { program := "ytekdipmioogohaa", sum := "8d2889479337681e03878dfe8ed0239935216ee0e03f042a097dcd7a6222f524", func := "loop.example/graphreducer/laws.FnStackOf", spec := "fnStackOf", recurses := true, plainKeys := false, apart := false, narrowed := true }
def FnStackOfUptoSaid : Prop := fnStackOfUptoRow.holds Try.pinned (OpenSpec.upto fnStackOfSpec)

/-- 'laws.FnCodeValid', WHERE WHAT IT READS IS OF BULK AT MOST 1048576: true; the input reads as it did. -/
def fnCodeValidUptoRow : OpenClaim := { program := "ytekdipmioogohaa", sum := "8d2889479337681e03878dfe8ed0239935216ee0e03f042a097dcd7a6222f524", func := "loop.example/graphreducer/laws.FnCodeValid", spec := "fnCodeValid", unfollowed := true, recurses := true, plainKeys := false, apart := false, narrowed := true }
def FnCodeValidUptoSaid : Prop := fnCodeValidUptoRow.holds Try.pinned (OpenSpec.upto fnCodeValidSpec)

/-- 'laws.FnCodeWide', WHERE WHAT IT READS IS OF BULK AT MOST 1048576: true; the input reads as it did. -/
def fnCodeWideUptoRow : OpenClaim := { program := "ytekdipmioogohaa", sum := "8d2889479337681e03878dfe8ed0239935216ee0e03f042a097dcd7a6222f524", func := "loop.example/graphreducer/laws.FnCodeWide", spec := "fnCodeWide", unfollowed := true, recurses := true, plainKeys := false, apart := false, narrowed := true }
def FnCodeWideUptoSaid : Prop := fnCodeWideUptoRow.holds Try.pinned (OpenSpec.upto fnCodeWideSpec)

/-- 'laws.FnCodeTwo', WHERE WHAT IT READS IS OF BULK AT MOST 1048576: true; the input reads as it did. -/
def fnCodeTwoUptoRow : OpenClaim := { program := "ytekdipmioogohaa", sum := "8d2889479337681e03878dfe8ed0239935216ee0e03f042a097dcd7a6222f524", func := "loop.example/graphreducer/laws.FnCodeTwo", spec := "fnCodeTwo", unfollowed := true, recurses := true, plainKeys := false, apart := false, narrowed := true }
def FnCodeTwoUptoSaid : Prop := fnCodeTwoUptoRow.holds Try.pinned (OpenSpec.upto fnCodeTwoSpec)

end Rows
end Go.Proofs.Ytekdipmioogohaa

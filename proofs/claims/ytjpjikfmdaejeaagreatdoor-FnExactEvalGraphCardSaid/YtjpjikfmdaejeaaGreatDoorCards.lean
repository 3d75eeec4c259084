/-
  DERIVED. GIVEN WITH THE SEED: THE CARDS: each row of YtjpjikfmdaejeaaGreatDoorRows.lean that lists a variable, with what it lists TIED to the program's text (the seventh form; the later family's looks); each row that meets fmt, with fmt's text TOLD by the authors' own Lean function (tested against real Go, not proved from fmt's source: count such statements apart). THE CARD IS WHAT COUNTS. Prove the row's statement (the work); the ties are given (YtjpjikfmdaejeaaGreatDoorTie.lean); close each card by the builder's one call (the guide's Derived/Test/ToyasCard.lean, 'card_holds'). Laid BY PROGRAM, IN A SANDBOX (cutbox-door.mjs). By AI agents, Wed Nov 11 2026. No macro, syntax, notation, axiom, sorry.
-/
import Derived.Test.YtjpjikfmdaejeaaGreatDoorRows
import GoSem.ClaimSeven
namespace Go.Proofs.YtjpjikfmdaejeaaGreatDoor
namespace Rows

/-- THE TIED CARD OF 'laws.FnExactStepGraph'. -/
def fnExactStepGraphCard : Claim7 := { stood := { row := fnExactStepGraphRow, standIns := [], harness := (true, "0c72ebc22c14eaa760f7ea9409e3461546b38315fdaa7954d1efaee21495a732"), looks := true }, kinds := [], alts := [], laidByText := true, laidKinds := [.sentinel, .sentinel, .sentinel], laidTests := true, laidLooks := .later }
def FnExactStepGraphCardSaid : Prop := Claim7.holds Tryz.pinned (.plain (OpenSpec.ofChange fnExactStepGraphSpec)) fnExactStepGraphCard

/-- THE TIED CARD OF 'laws.FnExactEvalGraph'. -/
def fnExactEvalGraphCard : Claim7 := { stood := { row := fnExactEvalGraphRow, standIns := [], harness := (true, "0c72ebc22c14eaa760f7ea9409e3461546b38315fdaa7954d1efaee21495a732"), looks := true }, kinds := [], alts := [], laidByText := true, laidKinds := [.sentinel, .sentinel, .sentinel], laidTests := true, laidLooks := .later }
def FnExactEvalGraphCardSaid : Prop := Claim7.holds Tryz.pinned (.plain (OpenSpec.ofChange fnExactEvalGraphSpec)) fnExactEvalGraphCard

/-- THE SECOND FORM's CARD OF 'laws.FnExactStepGraph'. -/
def fnExactStepGraphUptoCard : Claim7 := { stood := { row := fnExactStepGraphUptoRow, standIns := [], harness := (true, "0c72ebc22c14eaa760f7ea9409e3461546b38315fdaa7954d1efaee21495a732"), looks := true }, kinds := [], alts := [], laidByText := true, laidKinds := [.sentinel, .sentinel, .sentinel], laidTests := true, laidLooks := .later }
def FnExactStepGraphUptoCardSaid : Prop := Claim7.holds Tryz.pinned (.plain (OpenSpec.upto fnExactStepGraphSpec)) fnExactStepGraphUptoCard

/-- THE SECOND FORM's CARD OF 'laws.FnExactEvalGraph'. -/
def fnExactEvalGraphUptoCard : Claim7 := { stood := { row := fnExactEvalGraphUptoRow, standIns := [], harness := (true, "0c72ebc22c14eaa760f7ea9409e3461546b38315fdaa7954d1efaee21495a732"), looks := true }, kinds := [], alts := [], laidByText := true, laidKinds := [.sentinel, .sentinel, .sentinel], laidTests := true, laidLooks := .later }
def FnExactEvalGraphUptoCardSaid : Prop := Claim7.holds Tryz.pinned (.plain (OpenSpec.upto fnExactEvalGraphSpec)) fnExactEvalGraphUptoCard
end Rows
end Go.Proofs.YtjpjikfmdaejeaaGreatDoor

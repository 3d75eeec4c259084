/-
  DERIVED. GIVEN WITH THE SEED: THE CARDS: each row of YtiipcgnkfhjpeaaGreatDoorRows.lean that lists a variable, with what it lists TIED to the program's text (the seventh form; the later family's looks); each row that meets fmt, with fmt's text TOLD by the authors' own Lean function (tested against real Go, not proved from fmt's source: count such statements apart). THE CARD IS WHAT COUNTS. Prove the row's statement (the work); the ties are given (YtiipcgnkfhjpeaaGreatDoorTie.lean); close each card by the builder's one call (the guide's Derived/Test/ToyasCard.lean, 'card_holds'). Laid BY PROGRAM, IN A SANDBOX (cutbox-door.mjs). By AI agents, Wed Nov 11 2026. No macro, syntax, notation, axiom, sorry.
-/
import Derived.Test.YtiipcgnkfhjpeaaGreatDoorRows
import GoSem.ClaimSeven
namespace Go.Proofs.YtiipcgnkfhjpeaaGreatDoor
namespace Rows

/-- THE TIED CARD OF 'laws.FnExactStepRun'. -/
def fnExactStepRunCard : Claim7 := { stood := { row := fnExactStepRunRow, standIns := [], harness := (true, "1186a7e72b351fc8c74287587b9b07ab25e2d612c4de2f923a96e76a2bf3b998"), looks := true }, kinds := [], alts := [], laidByText := true, laidKinds := [.sentinel, .sentinel, .sentinel], laidTests := true, laidLooks := .later }
def FnExactStepRunCardSaid : Prop := Claim7.holds Tryz.pinned (.plain (OpenSpec.ofChange fnExactStepRunSpec)) fnExactStepRunCard

/-- THE TIED CARD OF 'laws.FnExactEvalRun'. -/
def fnExactEvalRunCard : Claim7 := { stood := { row := fnExactEvalRunRow, standIns := [], harness := (true, "1186a7e72b351fc8c74287587b9b07ab25e2d612c4de2f923a96e76a2bf3b998"), looks := true }, kinds := [], alts := [], laidByText := true, laidKinds := [.sentinel, .sentinel, .sentinel], laidTests := true, laidLooks := .later }
def FnExactEvalRunCardSaid : Prop := Claim7.holds Tryz.pinned (.plain (OpenSpec.ofChange fnExactEvalRunSpec)) fnExactEvalRunCard

/-- THE SECOND FORM's CARD OF 'laws.FnExactStepRun'. -/
def fnExactStepRunUptoCard : Claim7 := { stood := { row := fnExactStepRunUptoRow, standIns := [], harness := (true, "1186a7e72b351fc8c74287587b9b07ab25e2d612c4de2f923a96e76a2bf3b998"), looks := true }, kinds := [], alts := [], laidByText := true, laidKinds := [.sentinel, .sentinel, .sentinel], laidTests := true, laidLooks := .later }
def FnExactStepRunUptoCardSaid : Prop := Claim7.holds Tryz.pinned (.plain (OpenSpec.upto fnExactStepRunSpec)) fnExactStepRunUptoCard

/-- THE SECOND FORM's CARD OF 'laws.FnExactEvalRun'. -/
def fnExactEvalRunUptoCard : Claim7 := { stood := { row := fnExactEvalRunUptoRow, standIns := [], harness := (true, "1186a7e72b351fc8c74287587b9b07ab25e2d612c4de2f923a96e76a2bf3b998"), looks := true }, kinds := [], alts := [], laidByText := true, laidKinds := [.sentinel, .sentinel, .sentinel], laidTests := true, laidLooks := .later }
def FnExactEvalRunUptoCardSaid : Prop := Claim7.holds Tryz.pinned (.plain (OpenSpec.upto fnExactEvalRunSpec)) fnExactEvalRunUptoCard
end Rows
end Go.Proofs.YtiipcgnkfhjpeaaGreatDoor

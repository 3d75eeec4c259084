/-
  DERIVED. GIVEN WITH THE SEED: THE CARDS: each row of YtidijbnoaeopdaaGreatDoorRows.lean that lists a variable, with what it lists TIED to the program's text (the seventh form; the later family's looks); each row that meets fmt, with fmt's text TOLD by the authors' own Lean function (tested against real Go, not proved from fmt's source: count such statements apart). THE CARD IS WHAT COUNTS. Prove the row's statement (the work); the ties are given (YtidijbnoaeopdaaGreatDoorTie.lean); close each card by the builder's one call (the guide's Derived/Test/ToyasCard.lean, 'card_holds'). Laid BY PROGRAM, IN A SANDBOX (cutbox-door.mjs). By AI agents, Wed Nov 11 2026. No macro, syntax, notation, axiom, sorry.
-/
import Derived.Test.YtidijbnoaeopdaaGreatDoorRows
import GoSem.ClaimSeven
namespace Go.Proofs.YtidijbnoaeopdaaGreatDoor
namespace Rows

/-- THE TIED CARD OF 'laws.FnExactStepRun'. -/
def fnExactStepRunCard : Claim7 := { stood := { row := fnExactStepRunRow, standIns := [], harness := (true, "18228c17e3e0fe2cb8a4cd52de0d8576543cd537a520969d516b5889050ee244"), looks := true }, kinds := [], alts := [], laidByText := true, laidKinds := [.sentinel, .sentinel, .sentinel], laidTests := true, laidLooks := .later }
def FnExactStepRunCardSaid : Prop := Claim7.holds Tryz.pinned (.plain (OpenSpec.ofChange fnExactStepRunSpec)) fnExactStepRunCard

/-- THE TIED CARD OF 'laws.FnExactEvalRun'. -/
def fnExactEvalRunCard : Claim7 := { stood := { row := fnExactEvalRunRow, standIns := [], harness := (true, "18228c17e3e0fe2cb8a4cd52de0d8576543cd537a520969d516b5889050ee244"), looks := true }, kinds := [], alts := [], laidByText := true, laidKinds := [.sentinel, .sentinel, .sentinel], laidTests := true, laidLooks := .later }
def FnExactEvalRunCardSaid : Prop := Claim7.holds Tryz.pinned (.plain (OpenSpec.ofChange fnExactEvalRunSpec)) fnExactEvalRunCard

/-- THE TIED CARD OF 'laws.FnExactNumberRun'. -/
def fnExactNumberRunCard : Claim7 := { stood := { row := fnExactNumberRunRow, standIns := [], harness := (true, "18228c17e3e0fe2cb8a4cd52de0d8576543cd537a520969d516b5889050ee244"), looks := true }, kinds := [], alts := [], laidByText := true, laidKinds := [.sentinel, .sentinel, .sentinel], laidTests := true, laidLooks := .later }
def FnExactNumberRunCardSaid : Prop := Claim7.holds Tryz.pinned (.plain (OpenSpec.ofChange fnExactNumberRunSpec)) fnExactNumberRunCard

/-- THE TIED CARD OF 'laws.FnExactPeakCells'. -/
def fnExactPeakCellsCard : Claim7 := { stood := { row := fnExactPeakCellsRow, standIns := [], harness := (true, "18228c17e3e0fe2cb8a4cd52de0d8576543cd537a520969d516b5889050ee244"), looks := true }, kinds := [], alts := [], laidByText := true, laidKinds := [.sentinel, .sentinel, .sentinel], laidTests := true, laidLooks := .later }
def FnExactPeakCellsCardSaid : Prop := Claim7.holds Tryz.pinned (.plain (OpenSpec.ofChange fnExactPeakCellsSpec)) fnExactPeakCellsCard

/-- THE SECOND FORM's CARD OF 'laws.FnExactStepRun'. -/
def fnExactStepRunUptoCard : Claim7 := { stood := { row := fnExactStepRunUptoRow, standIns := [], harness := (true, "18228c17e3e0fe2cb8a4cd52de0d8576543cd537a520969d516b5889050ee244"), looks := true }, kinds := [], alts := [], laidByText := true, laidKinds := [.sentinel, .sentinel, .sentinel], laidTests := true, laidLooks := .later }
def FnExactStepRunUptoCardSaid : Prop := Claim7.holds Tryz.pinned (.plain (OpenSpec.upto fnExactStepRunSpec)) fnExactStepRunUptoCard

/-- THE SECOND FORM's CARD OF 'laws.FnExactEvalRun'. -/
def fnExactEvalRunUptoCard : Claim7 := { stood := { row := fnExactEvalRunUptoRow, standIns := [], harness := (true, "18228c17e3e0fe2cb8a4cd52de0d8576543cd537a520969d516b5889050ee244"), looks := true }, kinds := [], alts := [], laidByText := true, laidKinds := [.sentinel, .sentinel, .sentinel], laidTests := true, laidLooks := .later }
def FnExactEvalRunUptoCardSaid : Prop := Claim7.holds Tryz.pinned (.plain (OpenSpec.upto fnExactEvalRunSpec)) fnExactEvalRunUptoCard

/-- THE SECOND FORM's CARD OF 'laws.FnExactNumberRun'. -/
def fnExactNumberRunUptoCard : Claim7 := { stood := { row := fnExactNumberRunUptoRow, standIns := [], harness := (true, "18228c17e3e0fe2cb8a4cd52de0d8576543cd537a520969d516b5889050ee244"), looks := true }, kinds := [], alts := [], laidByText := true, laidKinds := [.sentinel, .sentinel, .sentinel], laidTests := true, laidLooks := .later }
def FnExactNumberRunUptoCardSaid : Prop := Claim7.holds Tryz.pinned (.plain (OpenSpec.upto fnExactNumberRunSpec)) fnExactNumberRunUptoCard

/-- THE SECOND FORM's CARD OF 'laws.FnExactPeakCells'. -/
def fnExactPeakCellsUptoCard : Claim7 := { stood := { row := fnExactPeakCellsUptoRow, standIns := [], harness := (true, "18228c17e3e0fe2cb8a4cd52de0d8576543cd537a520969d516b5889050ee244"), looks := true }, kinds := [], alts := [], laidByText := true, laidKinds := [.sentinel, .sentinel, .sentinel], laidTests := true, laidLooks := .later }
def FnExactPeakCellsUptoCardSaid : Prop := Claim7.holds Tryz.pinned (.plain (OpenSpec.upto fnExactPeakCellsSpec)) fnExactPeakCellsUptoCard
end Rows
end Go.Proofs.YtidijbnoaeopdaaGreatDoor

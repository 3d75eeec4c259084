/-
  DERIVED. GIVEN WITH THE SEED: THE CARDS: each row of YtjpjikfmdaejeaaDoorRows.lean that lists a variable, with what it lists TIED to the program's text (the seventh form; the later family's looks); each row that meets fmt, with fmt's text TOLD by the authors' own Lean function (tested against real Go, not proved from fmt's source: count such statements apart). THE CARD IS WHAT COUNTS. Prove the row's statement (the work); the ties are given (YtjpjikfmdaejeaaDoorTie.lean); close each card by the builder's one call (the guide's Derived/Test/ToyasCard.lean, 'card_holds'). Laid BY PROGRAM, IN A SANDBOX (cutbox-door.mjs). By AI agents, Wed Nov 11 2026. No macro, syntax, notation, axiom, sorry.
-/
import Derived.Test.YtjpjikfmdaejeaaDoorRows
import GoSem.ClaimSeven
namespace Go.Proofs.YtjpjikfmdaejeaaDoor
namespace Rows

/-- THE TIED CARD OF 'laws.FnExactNumberNeed'. -/
def fnExactNumberNeedCard : Claim7 := { stood := { row := fnExactNumberNeedRow, standIns := [], harness := (true, "da358bfc8a13dcb7bc7e8d4aa5542efc6f6bfbb3ac083189bc97f1acae49d421"), looks := true }, kinds := [], alts := [], laidByText := true, laidKinds := [.sentinel, .sentinel, .sentinel, .sentinel], laidTests := true, laidLooks := .later }
def FnExactNumberNeedCardSaid : Prop := Claim7.holds Tryd.pinned (.plain (OpenSpec.ofChange fnExactNumberNeedSpec)) fnExactNumberNeedCard

/-- THE TIED CARD OF 'laws.FnExactStepName'. -/
def fnExactStepNameCard : Claim7 := { stood := { row := fnExactStepNameRow, standIns := [], harness := (true, "da358bfc8a13dcb7bc7e8d4aa5542efc6f6bfbb3ac083189bc97f1acae49d421"), looks := true }, kinds := [], alts := [], laidByText := true, laidKinds := [.sentinel, .sentinel, .sentinel], laidTests := true, laidLooks := .later }
def FnExactStepNameCardSaid : Prop := Claim7.holds Tryd.pinned (.plain (OpenSpec.ofChange fnExactStepNameSpec)) fnExactStepNameCard

/-- THE TIED CARD OF 'laws.FnExactEvalName'. -/
def fnExactEvalNameCard : Claim7 := { stood := { row := fnExactEvalNameRow, standIns := [], harness := (true, "da358bfc8a13dcb7bc7e8d4aa5542efc6f6bfbb3ac083189bc97f1acae49d421"), looks := true }, kinds := [], alts := [], laidByText := true, laidKinds := [.sentinel, .sentinel, .sentinel, .sentinel], laidTests := true, laidLooks := .later }
def FnExactEvalNameCardSaid : Prop := Claim7.holds Tryd.pinned (.plain (OpenSpec.ofChange fnExactEvalNameSpec)) fnExactEvalNameCard

/-- THE TIED CARD OF 'laws.FnExactNumberName'. -/
def fnExactNumberNameCard : Claim7 := { stood := { row := fnExactNumberNameRow, standIns := [], harness := (true, "da358bfc8a13dcb7bc7e8d4aa5542efc6f6bfbb3ac083189bc97f1acae49d421"), looks := true }, kinds := [], alts := [], laidByText := true, laidKinds := [.sentinel, .sentinel, .sentinel, .sentinel], laidTests := true, laidLooks := .later }
def FnExactNumberNameCardSaid : Prop := Claim7.holds Tryd.pinned (.plain (OpenSpec.ofChange fnExactNumberNameSpec)) fnExactNumberNameCard

/-- THE TIED CARD OF 'laws.FnExactTraceName'. -/
def fnExactTraceNameCard : Claim7 := { stood := { row := fnExactTraceNameRow, standIns := [], harness := (true, "da358bfc8a13dcb7bc7e8d4aa5542efc6f6bfbb3ac083189bc97f1acae49d421"), looks := true }, kinds := [], alts := [], laidByText := true, laidKinds := [.sentinel, .sentinel, .sentinel, .sentinel], laidTests := true, laidLooks := .later }
def FnExactTraceNameCardSaid : Prop := Claim7.holds Tryd.pinned (.plain (OpenSpec.ofChange fnExactTraceNameSpec)) fnExactTraceNameCard

/-- THE SECOND FORM's CARD OF 'laws.FnExactNumberNeed'. -/
def fnExactNumberNeedUptoCard : Claim7 := { stood := { row := fnExactNumberNeedUptoRow, standIns := [], harness := (true, "da358bfc8a13dcb7bc7e8d4aa5542efc6f6bfbb3ac083189bc97f1acae49d421"), looks := true }, kinds := [], alts := [], laidByText := true, laidKinds := [.sentinel, .sentinel, .sentinel, .sentinel], laidTests := true, laidLooks := .later }
def FnExactNumberNeedUptoCardSaid : Prop := Claim7.holds Tryd.pinned (.plain (OpenSpec.upto fnExactNumberNeedSpec)) fnExactNumberNeedUptoCard

/-- THE SECOND FORM's CARD OF 'laws.FnExactStepName'. -/
def fnExactStepNameUptoCard : Claim7 := { stood := { row := fnExactStepNameUptoRow, standIns := [], harness := (true, "da358bfc8a13dcb7bc7e8d4aa5542efc6f6bfbb3ac083189bc97f1acae49d421"), looks := true }, kinds := [], alts := [], laidByText := true, laidKinds := [.sentinel, .sentinel, .sentinel], laidTests := true, laidLooks := .later }
def FnExactStepNameUptoCardSaid : Prop := Claim7.holds Tryd.pinned (.plain (OpenSpec.upto fnExactStepNameSpec)) fnExactStepNameUptoCard

/-- THE SECOND FORM's CARD OF 'laws.FnExactEvalName'. -/
def fnExactEvalNameUptoCard : Claim7 := { stood := { row := fnExactEvalNameUptoRow, standIns := [], harness := (true, "da358bfc8a13dcb7bc7e8d4aa5542efc6f6bfbb3ac083189bc97f1acae49d421"), looks := true }, kinds := [], alts := [], laidByText := true, laidKinds := [.sentinel, .sentinel, .sentinel, .sentinel], laidTests := true, laidLooks := .later }
def FnExactEvalNameUptoCardSaid : Prop := Claim7.holds Tryd.pinned (.plain (OpenSpec.upto fnExactEvalNameSpec)) fnExactEvalNameUptoCard

/-- THE SECOND FORM's CARD OF 'laws.FnExactNumberName'. -/
def fnExactNumberNameUptoCard : Claim7 := { stood := { row := fnExactNumberNameUptoRow, standIns := [], harness := (true, "da358bfc8a13dcb7bc7e8d4aa5542efc6f6bfbb3ac083189bc97f1acae49d421"), looks := true }, kinds := [], alts := [], laidByText := true, laidKinds := [.sentinel, .sentinel, .sentinel, .sentinel], laidTests := true, laidLooks := .later }
def FnExactNumberNameUptoCardSaid : Prop := Claim7.holds Tryd.pinned (.plain (OpenSpec.upto fnExactNumberNameSpec)) fnExactNumberNameUptoCard

/-- THE SECOND FORM's CARD OF 'laws.FnExactTraceName'. -/
def fnExactTraceNameUptoCard : Claim7 := { stood := { row := fnExactTraceNameUptoRow, standIns := [], harness := (true, "da358bfc8a13dcb7bc7e8d4aa5542efc6f6bfbb3ac083189bc97f1acae49d421"), looks := true }, kinds := [], alts := [], laidByText := true, laidKinds := [.sentinel, .sentinel, .sentinel, .sentinel], laidTests := true, laidLooks := .later }
def FnExactTraceNameUptoCardSaid : Prop := Claim7.holds Tryd.pinned (.plain (OpenSpec.upto fnExactTraceNameSpec)) fnExactTraceNameUptoCard
end Rows
end Go.Proofs.YtjpjikfmdaejeaaDoor

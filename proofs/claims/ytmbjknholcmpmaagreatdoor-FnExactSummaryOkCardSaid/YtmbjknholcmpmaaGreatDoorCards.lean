/-
  DERIVED. GIVEN WITH THE SEED: THE CARDS: each row of YtmbjknholcmpmaaGreatDoorRows.lean that lists a variable, with what it lists TIED to the program's text (the seventh form; the later family's looks); each row that meets fmt, with fmt's text TOLD by the authors' own Lean function (tested against real Go, not proved from fmt's source: count such statements apart). THE CARD IS WHAT COUNTS. Prove the row's statement (the work); the ties are given (YtmbjknholcmpmaaGreatDoorTie.lean); close each card by the builder's one call (the guide's Derived/Test/ToyasCard.lean, 'card_holds'). Laid BY PROGRAM, IN A SANDBOX (cutbox-door.mjs). By AI agents, Wed Nov 11 2026. No macro, syntax, notation, axiom, sorry.
-/
import Derived.Test.YtmbjknholcmpmaaGreatDoorRows
import GoSem.ClaimSeven
namespace Go.Proofs.YtmbjknholcmpmaaGreatDoor
namespace Rows

/-- THE TIED CARD OF 'laws.FnExactSummaryOk'. -/
def fnExactSummaryOkCard : Claim7 := { stood := { row := fnExactSummaryOkRow, standIns := [], harness := (true, "3af9770d2de5256e4011b6defd5efa456198d9a5e7cb8a6ba70e772d2edf94eb"), looks := true }, kinds := [], alts := [], laidByText := true, laidKinds := [.data, .data, .data, .data], laidTests := true, laidLooks := .later }
def FnExactSummaryOkCardSaid : Prop := Claim7.holds Tryz.pinned (.plain (OpenSpec.ofChange fnExactSummaryOkSpec)) fnExactSummaryOkCard

/-- THE TIED CARD OF 'laws.FnExactPutSummary'. -/
def fnExactPutSummaryCard : Claim7 := { stood := { row := fnExactPutSummaryRow, standIns := [], harness := (true, "3af9770d2de5256e4011b6defd5efa456198d9a5e7cb8a6ba70e772d2edf94eb"), looks := true }, kinds := [], alts := [], laidByText := true, laidKinds := [.data, .data, .data, .data], laidTests := true, laidLooks := .later }
def FnExactPutSummaryCardSaid : Prop := Claim7.holds Tryz.pinned (.plain (OpenSpec.ofChange fnExactPutSummarySpec)) fnExactPutSummaryCard

/-- THE SECOND FORM's CARD OF 'laws.FnExactSummaryOk'. -/
def fnExactSummaryOkUptoCard : Claim7 := { stood := { row := fnExactSummaryOkUptoRow, standIns := [], harness := (true, "3af9770d2de5256e4011b6defd5efa456198d9a5e7cb8a6ba70e772d2edf94eb"), looks := true }, kinds := [], alts := [], laidByText := true, laidKinds := [.data, .data, .data, .data], laidTests := true, laidLooks := .later }
def FnExactSummaryOkUptoCardSaid : Prop := Claim7.holds Tryz.pinned (.plain (OpenSpec.upto fnExactSummaryOkSpec)) fnExactSummaryOkUptoCard

/-- THE SECOND FORM's CARD OF 'laws.FnExactPutSummary'. -/
def fnExactPutSummaryUptoCard : Claim7 := { stood := { row := fnExactPutSummaryUptoRow, standIns := [], harness := (true, "3af9770d2de5256e4011b6defd5efa456198d9a5e7cb8a6ba70e772d2edf94eb"), looks := true }, kinds := [], alts := [], laidByText := true, laidKinds := [.data, .data, .data, .data], laidTests := true, laidLooks := .later }
def FnExactPutSummaryUptoCardSaid : Prop := Claim7.holds Tryz.pinned (.plain (OpenSpec.upto fnExactPutSummarySpec)) fnExactPutSummaryUptoCard
end Rows
end Go.Proofs.YtmbjknholcmpmaaGreatDoor

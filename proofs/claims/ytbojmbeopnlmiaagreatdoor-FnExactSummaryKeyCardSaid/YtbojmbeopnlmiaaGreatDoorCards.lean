/-
  DERIVED. GIVEN WITH THE SEED: THE CARDS: each row of YtbojmbeopnlmiaaGreatDoorRows.lean that lists a variable, with what it lists TIED to the program's text (the seventh form; the later family's looks); each row that meets fmt, with fmt's text TOLD by the authors' own Lean function (tested against real Go, not proved from fmt's source: count such statements apart). THE CARD IS WHAT COUNTS. Prove the row's statement (the work); the ties are given (YtbojmbeopnlmiaaGreatDoorTie.lean); close each card by the builder's one call (the guide's Derived/Test/ToyasCard.lean, 'card_holds'). Laid BY PROGRAM, IN A SANDBOX (cutbox-door.mjs). By AI agents, Wed Nov 11 2026. No macro, syntax, notation, axiom, sorry.
-/
import Derived.Test.YtbojmbeopnlmiaaGreatDoorRows
import GoSem.ClaimSeven
namespace Go.Proofs.YtbojmbeopnlmiaaGreatDoor
namespace Rows

/-- THE TIED CARD OF 'laws.FnExactPutType'. -/
def fnExactPutTypeCard : Claim7 := { stood := { row := fnExactPutTypeRow, standIns := [], harness := (true, "65c5de260c4919b4f5e88e33477da350fd9185cda6b530160e2e9283abc65a6c"), looks := true }, kinds := [], alts := [], laidByText := true, laidKinds := [.data, .data, .data, .data], laidTests := true, laidLooks := .later }
def FnExactPutTypeCardSaid : Prop := Claim7.holds Tryz.pinned (.plain (OpenSpec.ofChange fnExactPutTypeSpec)) fnExactPutTypeCard

/-- THE TIED CARD OF 'laws.FnExactPutSummary'. -/
def fnExactPutSummaryCard : Claim7 := { stood := { row := fnExactPutSummaryRow, standIns := [], harness := (true, "65c5de260c4919b4f5e88e33477da350fd9185cda6b530160e2e9283abc65a6c"), looks := true }, kinds := [], alts := [], laidByText := true, laidKinds := [.data, .data, .data, .data], laidTests := true, laidLooks := .later }
def FnExactPutSummaryCardSaid : Prop := Claim7.holds Tryz.pinned (.plain (OpenSpec.ofChange fnExactPutSummarySpec)) fnExactPutSummaryCard

/-- THE TIED CARD OF 'laws.FnExactSummaryKey'. -/
def fnExactSummaryKeyCard : Claim7 := { stood := { row := fnExactSummaryKeyRow, standIns := [], harness := (true, "65c5de260c4919b4f5e88e33477da350fd9185cda6b530160e2e9283abc65a6c"), looks := true }, kinds := [], alts := [], laidByText := true, laidKinds := [.data, .data, .data, .data], laidTests := true, laidLooks := .later }
def FnExactSummaryKeyCardSaid : Prop := Claim7.holds Tryz.pinned (.plain (OpenSpec.ofChange fnExactSummaryKeySpec)) fnExactSummaryKeyCard

/-- THE SECOND FORM's CARD OF 'laws.FnExactPutType'. -/
def fnExactPutTypeUptoCard : Claim7 := { stood := { row := fnExactPutTypeUptoRow, standIns := [], harness := (true, "65c5de260c4919b4f5e88e33477da350fd9185cda6b530160e2e9283abc65a6c"), looks := true }, kinds := [], alts := [], laidByText := true, laidKinds := [.data, .data, .data, .data], laidTests := true, laidLooks := .later }
def FnExactPutTypeUptoCardSaid : Prop := Claim7.holds Tryz.pinned (.plain (OpenSpec.upto fnExactPutTypeSpec)) fnExactPutTypeUptoCard

/-- THE SECOND FORM's CARD OF 'laws.FnExactPutSummary'. -/
def fnExactPutSummaryUptoCard : Claim7 := { stood := { row := fnExactPutSummaryUptoRow, standIns := [], harness := (true, "65c5de260c4919b4f5e88e33477da350fd9185cda6b530160e2e9283abc65a6c"), looks := true }, kinds := [], alts := [], laidByText := true, laidKinds := [.data, .data, .data, .data], laidTests := true, laidLooks := .later }
def FnExactPutSummaryUptoCardSaid : Prop := Claim7.holds Tryz.pinned (.plain (OpenSpec.upto fnExactPutSummarySpec)) fnExactPutSummaryUptoCard

/-- THE SECOND FORM's CARD OF 'laws.FnExactSummaryKey'. -/
def fnExactSummaryKeyUptoCard : Claim7 := { stood := { row := fnExactSummaryKeyUptoRow, standIns := [], harness := (true, "65c5de260c4919b4f5e88e33477da350fd9185cda6b530160e2e9283abc65a6c"), looks := true }, kinds := [], alts := [], laidByText := true, laidKinds := [.data, .data, .data, .data], laidTests := true, laidLooks := .later }
def FnExactSummaryKeyUptoCardSaid : Prop := Claim7.holds Tryz.pinned (.plain (OpenSpec.upto fnExactSummaryKeySpec)) fnExactSummaryKeyUptoCard
end Rows
end Go.Proofs.YtbojmbeopnlmiaaGreatDoor

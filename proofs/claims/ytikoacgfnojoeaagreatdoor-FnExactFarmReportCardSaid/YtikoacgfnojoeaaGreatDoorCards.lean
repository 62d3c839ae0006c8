/-
  DERIVED. GIVEN WITH THE SEED: THE CARDS: each row of YtikoacgfnojoeaaGreatDoorRows.lean that lists a variable, with what it lists TIED to the program's text (the seventh form; the later family's looks); each row that meets fmt, with fmt's text TOLD by the authors' own Lean function (tested against real Go, not proved from fmt's source: count such statements apart). THE CARD IS WHAT COUNTS. Prove the row's statement (the work); the ties are given (YtikoacgfnojoeaaGreatDoorTie.lean); close each card by the builder's one call (the guide's Derived/Test/ToyasCard.lean, 'card_holds'). Laid BY PROGRAM, IN A SANDBOX (cutbox-door.mjs). By AI agents, Wed Nov 11 2026. No macro, syntax, notation, axiom, sorry.
-/
import Derived.Test.YtikoacgfnojoeaaGreatDoorRows
import GoSem.ClaimSeven
namespace Go.Proofs.YtikoacgfnojoeaaGreatDoor
namespace Rows

/-- THE TIED CARD OF 'laws.FnExactFarmReport'. -/
def fnExactFarmReportCard : Claim7 := { stood := { row := fnExactFarmReportRow, standIns := [], harness := (true, "17529f91efccdb2f58952a792e57fd57c51958c789113a1725da194474694487"), looks := true }, kinds := [], alts := [], laidByText := true, laidKinds := [.data, .data, .data, .sentinel], laidTests := true, laidLooks := .later }
def FnExactFarmReportCardSaid : Prop := Claim7.holds Tryz.pinned (.plain (OpenSpec.ofChange fnExactFarmReportSpec)) fnExactFarmReportCard

/-- THE SECOND FORM's CARD OF 'laws.FnExactFarmReport'. -/
def fnExactFarmReportUptoCard : Claim7 := { stood := { row := fnExactFarmReportUptoRow, standIns := [], harness := (true, "17529f91efccdb2f58952a792e57fd57c51958c789113a1725da194474694487"), looks := true }, kinds := [], alts := [], laidByText := true, laidKinds := [.data, .data, .data, .sentinel], laidTests := true, laidLooks := .later }
def FnExactFarmReportUptoCardSaid : Prop := Claim7.holds Tryz.pinned (.plain (OpenSpec.upto fnExactFarmReportSpec)) fnExactFarmReportUptoCard
end Rows
end Go.Proofs.YtikoacgfnojoeaaGreatDoor

/-
  DERIVED. GIVEN WITH THE SEED: THE CARDS: each row of YtllbfbllkefjeaaGreatDoorRows.lean that lists a variable, with what it lists TIED to the program's text (the seventh form; the later family's looks); each row that meets fmt, with fmt's text TOLD by the authors' own Lean function (tested against real Go, not proved from fmt's source: count such statements apart). THE CARD IS WHAT COUNTS. Prove the row's statement (the work); the ties are given (YtllbfbllkefjeaaGreatDoorTie.lean); close each card by the builder's one call (the guide's Derived/Test/ToyasCard.lean, 'card_holds'). Laid BY PROGRAM, IN A SANDBOX (cutbox-door.mjs). By AI agents, Wed Nov 11 2026. No macro, syntax, notation, axiom, sorry.
-/
import Derived.Test.YtllbfbllkefjeaaGreatDoorRows
import GoSem.ClaimSeven
namespace Go.Proofs.YtllbfbllkefjeaaGreatDoor
namespace Rows

/-- THE TIED CARD OF 'laws.FnExactFarmStart'. -/
def fnExactFarmStartCard : Claim7 := { stood := { row := fnExactFarmStartRow, standIns := [], harness := (true, "1940a175994ae5acc1c0f959c7101ad3ed9474281f00172cb7f8b02fca28f4ce"), looks := true }, kinds := [], alts := [], laidByText := true, laidKinds := [.data, .data, .data, .data, .sentinel], laidTests := true, laidLooks := .later }
def FnExactFarmStartCardSaid : Prop := Claim7.holds Tryz.pinned (.plain (OpenSpec.ofChange fnExactFarmStartSpec)) fnExactFarmStartCard

/-- THE SECOND FORM's CARD OF 'laws.FnExactFarmStart'. -/
def fnExactFarmStartUptoCard : Claim7 := { stood := { row := fnExactFarmStartUptoRow, standIns := [], harness := (true, "1940a175994ae5acc1c0f959c7101ad3ed9474281f00172cb7f8b02fca28f4ce"), looks := true }, kinds := [], alts := [], laidByText := true, laidKinds := [.data, .data, .data, .data, .sentinel], laidTests := true, laidLooks := .later }
def FnExactFarmStartUptoCardSaid : Prop := Claim7.holds Tryz.pinned (.plain (OpenSpec.upto fnExactFarmStartSpec)) fnExactFarmStartUptoCard
end Rows
end Go.Proofs.YtllbfbllkefjeaaGreatDoor

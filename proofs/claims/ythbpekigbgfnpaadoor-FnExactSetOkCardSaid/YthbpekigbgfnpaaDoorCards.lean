/-
  DERIVED. GIVEN WITH THE SEED: THE CARDS: each row of YthbpekigbgfnpaaDoorRows.lean that lists a variable, with what it lists TIED to the program's text (the seventh form; the later family's looks); each row that meets fmt, with fmt's text TOLD by the authors' own Lean function (tested against real Go, not proved from fmt's source: count such statements apart). THE CARD IS WHAT COUNTS. Prove the row's statement (the work); the ties are given (YthbpekigbgfnpaaDoorTie.lean); close each card by the builder's one call (the guide's Derived/Test/ToyasCard.lean, 'card_holds'). Laid BY PROGRAM, IN A SANDBOX (cutbox-door.mjs). By AI agents, Wed Nov 11 2026. No macro, syntax, notation, axiom, sorry.
-/
import Derived.Test.YthbpekigbgfnpaaDoorRows
import GoSem.ClaimSeven
namespace Go.Proofs.YthbpekigbgfnpaaDoor
namespace Rows

/-- THE TIED CARD OF 'laws.FnExactSetOk'. -/
def fnExactSetOkCard : Claim7 := { stood := { row := fnExactSetOkRow, standIns := [], harness := (true, "c69ba6c97d97ed2bb1b4c37ef09eeda2acdbd24cf0df3cf350e16e7345c01e37"), looks := false }, kinds := [], alts := [], laidByText := true, laidKinds := [.data], laidTests := true, laidLooks := .later }
def FnExactSetOkCardSaid : Prop := Claim7.holds Tryd.pinned (.plain (OpenSpec.ofChange fnExactSetOkSpec)) fnExactSetOkCard

/-- THE SECOND FORM's CARD OF 'laws.FnExactSetOk'. -/
def fnExactSetOkUptoCard : Claim7 := { stood := { row := fnExactSetOkUptoRow, standIns := [], harness := (true, "c69ba6c97d97ed2bb1b4c37ef09eeda2acdbd24cf0df3cf350e16e7345c01e37"), looks := false }, kinds := [], alts := [], laidByText := true, laidKinds := [.data], laidTests := true, laidLooks := .later }
def FnExactSetOkUptoCardSaid : Prop := Claim7.holds Tryd.pinned (.plain (OpenSpec.upto fnExactSetOkSpec)) fnExactSetOkUptoCard
end Rows
end Go.Proofs.YthbpekigbgfnpaaDoor

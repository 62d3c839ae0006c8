/-
  DERIVED. GIVEN WITH THE SEED: THE CARDS: each row of YtcaombibbbaplaaDoorRows.lean that lists a variable, with what it lists TIED to the program's text (the seventh form; the later family's looks); each row that meets fmt, with fmt's text TOLD by the authors' own Lean function (tested against real Go, not proved from fmt's source: count such statements apart). THE CARD IS WHAT COUNTS. Prove the row's statement (the work); the ties are given (YtcaombibbbaplaaDoorTie.lean); close each card by the builder's one call (the guide's Derived/Test/ToyasCard.lean, 'card_holds'). Laid BY PROGRAM, IN A SANDBOX (cutbox-door.mjs). By AI agents, Wed Nov 11 2026. No macro, syntax, notation, axiom, sorry.
-/
import Derived.Test.YtcaombibbbaplaaDoorRows
import GoSem.ClaimSeven
namespace Go.Proofs.YtcaombibbbaplaaDoor
namespace Rows

/-- THE TIED CARD OF 'laws.FnExactSetOk'. -/
def fnExactSetOkCard : Claim7 := { stood := { row := fnExactSetOkRow, standIns := [], harness := (true, "fc2ba9ca077d8318189c0b81da4f831a9de59b425eca7ebc4ed4ac6024d2d12b"), looks := false }, kinds := [], alts := [], laidByText := true, laidKinds := [.data], laidTests := true, laidLooks := .later }
def FnExactSetOkCardSaid : Prop := Claim7.holds Tryd.pinned (.plain (OpenSpec.ofChange fnExactSetOkSpec)) fnExactSetOkCard

/-- THE TIED CARD OF 'laws.FnExactNameOk'. -/
def fnExactNameOkCard : Claim7 := { stood := { row := fnExactNameOkRow, standIns := [], harness := (true, "fc2ba9ca077d8318189c0b81da4f831a9de59b425eca7ebc4ed4ac6024d2d12b"), looks := false }, kinds := [], alts := [], laidByText := true, laidKinds := [.data], laidTests := true, laidLooks := .later }
def FnExactNameOkCardSaid : Prop := Claim7.holds Tryd.pinned (.plain (OpenSpec.ofChange fnExactNameOkSpec)) fnExactNameOkCard

/-- THE SECOND FORM's CARD OF 'laws.FnExactSetOk'. -/
def fnExactSetOkUptoCard : Claim7 := { stood := { row := fnExactSetOkUptoRow, standIns := [], harness := (true, "fc2ba9ca077d8318189c0b81da4f831a9de59b425eca7ebc4ed4ac6024d2d12b"), looks := false }, kinds := [], alts := [], laidByText := true, laidKinds := [.data], laidTests := true, laidLooks := .later }
def FnExactSetOkUptoCardSaid : Prop := Claim7.holds Tryd.pinned (.plain (OpenSpec.upto fnExactSetOkSpec)) fnExactSetOkUptoCard

/-- THE SECOND FORM's CARD OF 'laws.FnExactNameOk'. -/
def fnExactNameOkUptoCard : Claim7 := { stood := { row := fnExactNameOkUptoRow, standIns := [], harness := (true, "fc2ba9ca077d8318189c0b81da4f831a9de59b425eca7ebc4ed4ac6024d2d12b"), looks := false }, kinds := [], alts := [], laidByText := true, laidKinds := [.data], laidTests := true, laidLooks := .later }
def FnExactNameOkUptoCardSaid : Prop := Claim7.holds Tryd.pinned (.plain (OpenSpec.upto fnExactNameOkSpec)) fnExactNameOkUptoCard
end Rows
end Go.Proofs.YtcaombibbbaplaaDoor

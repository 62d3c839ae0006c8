/-
  DERIVED. GIVEN WITH THE SEED: THE CARDS: each row of YtfpginepnmehpaaDoorRows.lean that lists a variable, with what it lists TIED to the program's text (the seventh form; the later family's looks); each row that meets fmt, with fmt's text TOLD by the authors' own Lean function (tested against real Go, not proved from fmt's source: count such statements apart). THE CARD IS WHAT COUNTS. Prove the row's statement (the work); the ties are given (YtfpginepnmehpaaDoorTie.lean); close each card by the builder's one call (the guide's Derived/Test/ToyasCard.lean, 'card_holds'). Laid BY PROGRAM, IN A SANDBOX (cutbox-door.mjs). By AI agents, Wed Nov 11 2026. No macro, syntax, notation, axiom, sorry.
-/
import Derived.Test.YtfpginepnmehpaaDoorRows
import GoSem.ClaimSeven
namespace Go.Proofs.YtfpginepnmehpaaDoor
namespace Rows

/-- THE TIED CARD OF 'laws.FnExactNameOk'. -/
def fnExactNameOkCard : Claim7 := { stood := { row := fnExactNameOkRow, standIns := [], harness := (true, "a3e30fa82ef3f64dbbc46eaa7d7dfd1b2604d313fddb50e4c2fec6577b019992"), looks := false }, kinds := [], alts := [], laidByText := true, laidKinds := [.data], laidTests := true, laidLooks := .later }
def FnExactNameOkCardSaid : Prop := Claim7.holds Tryd.pinned (.plain (OpenSpec.ofChange fnExactNameOkSpec)) fnExactNameOkCard

/-- THE TIED CARD OF 'laws.FnExactSetOk'. -/
def fnExactSetOkCard : Claim7 := { stood := { row := fnExactSetOkRow, standIns := [], harness := (true, "a3e30fa82ef3f64dbbc46eaa7d7dfd1b2604d313fddb50e4c2fec6577b019992"), looks := false }, kinds := [], alts := [], laidByText := true, laidKinds := [.data], laidTests := true, laidLooks := .later }
def FnExactSetOkCardSaid : Prop := Claim7.holds Tryd.pinned (.plain (OpenSpec.ofChange fnExactSetOkSpec)) fnExactSetOkCard

/-- THE SECOND FORM's CARD OF 'laws.FnExactNameOk'. -/
def fnExactNameOkUptoCard : Claim7 := { stood := { row := fnExactNameOkUptoRow, standIns := [], harness := (true, "a3e30fa82ef3f64dbbc46eaa7d7dfd1b2604d313fddb50e4c2fec6577b019992"), looks := false }, kinds := [], alts := [], laidByText := true, laidKinds := [.data], laidTests := true, laidLooks := .later }
def FnExactNameOkUptoCardSaid : Prop := Claim7.holds Tryd.pinned (.plain (OpenSpec.upto fnExactNameOkSpec)) fnExactNameOkUptoCard

/-- THE SECOND FORM's CARD OF 'laws.FnExactSetOk'. -/
def fnExactSetOkUptoCard : Claim7 := { stood := { row := fnExactSetOkUptoRow, standIns := [], harness := (true, "a3e30fa82ef3f64dbbc46eaa7d7dfd1b2604d313fddb50e4c2fec6577b019992"), looks := false }, kinds := [], alts := [], laidByText := true, laidKinds := [.data], laidTests := true, laidLooks := .later }
def FnExactSetOkUptoCardSaid : Prop := Claim7.holds Tryd.pinned (.plain (OpenSpec.upto fnExactSetOkSpec)) fnExactSetOkUptoCard
end Rows
end Go.Proofs.YtfpginepnmehpaaDoor

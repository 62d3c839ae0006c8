/-
  DERIVED. GIVEN WITH THE SEED: THE CARDS: each row of YtdlephiocfnkhaaDoorRows.lean that lists a variable, with what it lists TIED to the program's text (the seventh form; the later family's looks); each row that meets fmt, with fmt's text TOLD by the authors' own Lean function (tested against real Go, not proved from fmt's source: count such statements apart). THE CARD IS WHAT COUNTS. Prove the row's statement (the work); the ties are given (YtdlephiocfnkhaaDoorTie.lean); close each card by the builder's one call (the guide's Derived/Test/ToyasCard.lean, 'card_holds'). Laid BY PROGRAM, IN A SANDBOX (cutbox-door.mjs). By AI agents, Wed Nov 11 2026. No macro, syntax, notation, axiom, sorry.
-/
import Derived.Test.YtdlephiocfnkhaaDoorRows
import GoSem.ClaimSeven
namespace Go.Proofs.YtdlephiocfnkhaaDoor
namespace Rows

/-- THE TIED CARD OF 'laws.FnExactEnvOk'. -/
def fnExactEnvOkCard : Claim7 := { stood := { row := fnExactEnvOkRow, standIns := [], harness := (true, "93af0a73d233286be19e5ca2b14659ace76e6919d533a78e72fe60dbb14f4dd6"), looks := true }, kinds := [], alts := [], laidByText := true, laidKinds := [.data, .data, .data, .data], laidTests := true, laidLooks := .later }
def FnExactEnvOkCardSaid : Prop := Claim7.holds Tryd.pinned (.plain (OpenSpec.ofChange fnExactEnvOkSpec)) fnExactEnvOkCard

/-- THE SECOND FORM's CARD OF 'laws.FnExactEnvOk'. -/
def fnExactEnvOkUptoCard : Claim7 := { stood := { row := fnExactEnvOkUptoRow, standIns := [], harness := (true, "93af0a73d233286be19e5ca2b14659ace76e6919d533a78e72fe60dbb14f4dd6"), looks := true }, kinds := [], alts := [], laidByText := true, laidKinds := [.data, .data, .data, .data], laidTests := true, laidLooks := .later }
def FnExactEnvOkUptoCardSaid : Prop := Claim7.holds Tryd.pinned (.plain (OpenSpec.upto fnExactEnvOkSpec)) fnExactEnvOkUptoCard
end Rows
end Go.Proofs.YtdlephiocfnkhaaDoor

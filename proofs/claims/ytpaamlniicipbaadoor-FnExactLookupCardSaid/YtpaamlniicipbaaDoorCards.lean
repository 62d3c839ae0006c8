/-
  DERIVED. GIVEN WITH THE SEED: THE CARDS: each row of YtpaamlniicipbaaDoorRows.lean that lists a variable, with what it lists TIED to the program's text (the seventh form; the later family's looks); each row that meets fmt, with fmt's text TOLD by the authors' own Lean function (tested against real Go, not proved from fmt's source: count such statements apart). THE CARD IS WHAT COUNTS. Prove the row's statement (the work); the ties are given (YtpaamlniicipbaaDoorTie.lean); close each card by the builder's one call (the guide's Derived/Test/ToyasCard.lean, 'card_holds'). Laid BY PROGRAM, IN A SANDBOX (cutbox-door.mjs). By AI agents, Wed Nov 11 2026. No macro, syntax, notation, axiom, sorry.
-/
import Derived.Test.YtpaamlniicipbaaDoorRows
import GoSem.ClaimSeven
namespace Go.Proofs.YtpaamlniicipbaaDoor
namespace Rows

/-- THE TIED CARD OF 'laws.FnExactEnvOk'. -/
def fnExactEnvOkCard : Claim7 := { stood := { row := fnExactEnvOkRow, standIns := [], harness := (true, "3e59c854401d80f14928956e41b78b3d88577b23702822afd6aaba4a487c0b6d"), looks := true }, kinds := [], alts := [], laidByText := true, laidKinds := [.data], laidTests := true, laidLooks := .later }
def FnExactEnvOkCardSaid : Prop := Claim7.holds Tryd.pinned (.plain (OpenSpec.ofChange fnExactEnvOkSpec)) fnExactEnvOkCard

/-- THE TIED CARD OF 'laws.FnExactLookup'. -/
def fnExactLookupCard : Claim7 := { stood := { row := fnExactLookupRow, standIns := [], harness := (true, "3e59c854401d80f14928956e41b78b3d88577b23702822afd6aaba4a487c0b6d"), looks := true }, kinds := [], alts := [], laidByText := true, laidKinds := [.data], laidTests := true, laidLooks := .later }
def FnExactLookupCardSaid : Prop := Claim7.holds Tryd.pinned (.plain (OpenSpec.ofChange fnExactLookupSpec)) fnExactLookupCard

/-- THE SECOND FORM's CARD OF 'laws.FnExactEnvOk'. -/
def fnExactEnvOkUptoCard : Claim7 := { stood := { row := fnExactEnvOkUptoRow, standIns := [], harness := (true, "3e59c854401d80f14928956e41b78b3d88577b23702822afd6aaba4a487c0b6d"), looks := true }, kinds := [], alts := [], laidByText := true, laidKinds := [.data], laidTests := true, laidLooks := .later }
def FnExactEnvOkUptoCardSaid : Prop := Claim7.holds Tryd.pinned (.plain (OpenSpec.upto fnExactEnvOkSpec)) fnExactEnvOkUptoCard

/-- THE SECOND FORM's CARD OF 'laws.FnExactLookup'. -/
def fnExactLookupUptoCard : Claim7 := { stood := { row := fnExactLookupUptoRow, standIns := [], harness := (true, "3e59c854401d80f14928956e41b78b3d88577b23702822afd6aaba4a487c0b6d"), looks := true }, kinds := [], alts := [], laidByText := true, laidKinds := [.data], laidTests := true, laidLooks := .later }
def FnExactLookupUptoCardSaid : Prop := Claim7.holds Tryd.pinned (.plain (OpenSpec.upto fnExactLookupSpec)) fnExactLookupUptoCard
end Rows
end Go.Proofs.YtpaamlniicipbaaDoor

/-
  DERIVED. GIVEN WITH THE SEED: THE CARDS: each row of YtmlehifdoifghaaDoorRows.lean that lists a variable, with what it lists TIED to the program's text (the seventh form; the later family's looks); each row that meets fmt, with fmt's text TOLD by the authors' own Lean function (tested against real Go, not proved from fmt's source: count such statements apart). THE CARD IS WHAT COUNTS. Prove the row's statement (the work); the ties are given (YtmlehifdoifghaaDoorTie.lean); close each card by the builder's one call (the guide's Derived/Test/ToyasCard.lean, 'card_holds'). Laid BY PROGRAM, IN A SANDBOX (cutbox-door.mjs). By AI agents, Wed Nov 11 2026. No macro, syntax, notation, axiom, sorry.
-/
import Derived.Test.YtmlehifdoifghaaDoorRows
import GoSem.ClaimSeven
namespace Go.Proofs.YtmlehifdoifghaaDoor
namespace Rows

/-- THE TIED CARD OF 'laws.FnExactStoreGet'. -/
def fnExactStoreGetCard : Claim7 := { stood := { row := fnExactStoreGetRow, standIns := [], harness := (true, "6aae5ef8709806b653f7d348e9d971cb13de729cf712b925c12268f90022aa10"), looks := false }, kinds := [], alts := [], laidByText := true, laidKinds := [.data, .data, .data], laidTests := true, laidLooks := .later }
def FnExactStoreGetCardSaid : Prop := Claim7.holds Tryd.pinned (.plain (OpenSpec.ofChange fnExactStoreGetSpec)) fnExactStoreGetCard

/-- THE TIED CARD OF 'laws.FnExactStorePut'. -/
def fnExactStorePutCard : Claim7 := { stood := { row := fnExactStorePutRow, standIns := [], harness := (true, "6aae5ef8709806b653f7d348e9d971cb13de729cf712b925c12268f90022aa10"), looks := false }, kinds := [], alts := [], laidByText := true, laidKinds := [.data, .data, .data], laidTests := true, laidLooks := .later }
def FnExactStorePutCardSaid : Prop := Claim7.holds Tryd.pinned (.plain (OpenSpec.ofChange fnExactStorePutSpec)) fnExactStorePutCard

/-- THE SECOND FORM's CARD OF 'laws.FnExactStoreGet'. -/
def fnExactStoreGetUptoCard : Claim7 := { stood := { row := fnExactStoreGetUptoRow, standIns := [], harness := (true, "6aae5ef8709806b653f7d348e9d971cb13de729cf712b925c12268f90022aa10"), looks := false }, kinds := [], alts := [], laidByText := true, laidKinds := [.data, .data, .data], laidTests := true, laidLooks := .later }
def FnExactStoreGetUptoCardSaid : Prop := Claim7.holds Tryd.pinned (.plain (OpenSpec.upto fnExactStoreGetSpec)) fnExactStoreGetUptoCard

/-- THE SECOND FORM's CARD OF 'laws.FnExactStorePut'. -/
def fnExactStorePutUptoCard : Claim7 := { stood := { row := fnExactStorePutUptoRow, standIns := [], harness := (true, "6aae5ef8709806b653f7d348e9d971cb13de729cf712b925c12268f90022aa10"), looks := false }, kinds := [], alts := [], laidByText := true, laidKinds := [.data, .data, .data], laidTests := true, laidLooks := .later }
def FnExactStorePutUptoCardSaid : Prop := Claim7.holds Tryd.pinned (.plain (OpenSpec.upto fnExactStorePutSpec)) fnExactStorePutUptoCard
end Rows
end Go.Proofs.YtmlehifdoifghaaDoor

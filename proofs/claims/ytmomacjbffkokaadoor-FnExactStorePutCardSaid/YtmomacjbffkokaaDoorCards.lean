/-
  DERIVED. GIVEN WITH THE SEED: THE CARDS: each row of YtmomacjbffkokaaDoorRows.lean that lists a variable, with what it lists TIED to the program's text (the seventh form; the later family's looks); each row that meets fmt, with fmt's text TOLD by the authors' own Lean function (tested against real Go, not proved from fmt's source: count such statements apart). THE CARD IS WHAT COUNTS. Prove the row's statement (the work); the ties are given (YtmomacjbffkokaaDoorTie.lean); close each card by the builder's one call (the guide's Derived/Test/ToyasCard.lean, 'card_holds'). Laid BY PROGRAM, IN A SANDBOX (cutbox-door.mjs). By AI agents, Wed Nov 11 2026. No macro, syntax, notation, axiom, sorry.
-/
import Derived.Test.YtmomacjbffkokaaDoorRows
import GoSem.ClaimSeven
namespace Go.Proofs.YtmomacjbffkokaaDoor
namespace Rows

/-- THE TIED CARD OF 'laws.FnExactStoreDrop'. -/
def fnExactStoreDropCard : Claim7 := { stood := { row := fnExactStoreDropRow, standIns := [], harness := (true, "0e9b665011e4f721657ff7c5700ab928dce11011b0b12d8a34c2b2820685f6a2"), looks := false }, kinds := [], alts := [], laidByText := true, laidKinds := [.data, .data, .data], laidTests := true, laidLooks := .later }
def FnExactStoreDropCardSaid : Prop := Claim7.holds Tryd.pinned (.plain (OpenSpec.ofChange fnExactStoreDropSpec)) fnExactStoreDropCard

/-- THE TIED CARD OF 'laws.FnExactStoreGet'. -/
def fnExactStoreGetCard : Claim7 := { stood := { row := fnExactStoreGetRow, standIns := [], harness := (true, "0e9b665011e4f721657ff7c5700ab928dce11011b0b12d8a34c2b2820685f6a2"), looks := false }, kinds := [], alts := [], laidByText := true, laidKinds := [.data, .data, .data], laidTests := true, laidLooks := .later }
def FnExactStoreGetCardSaid : Prop := Claim7.holds Tryd.pinned (.plain (OpenSpec.ofChange fnExactStoreGetSpec)) fnExactStoreGetCard

/-- THE TIED CARD OF 'laws.FnExactStorePut'. -/
def fnExactStorePutCard : Claim7 := { stood := { row := fnExactStorePutRow, standIns := [], harness := (true, "0e9b665011e4f721657ff7c5700ab928dce11011b0b12d8a34c2b2820685f6a2"), looks := false }, kinds := [], alts := [], laidByText := true, laidKinds := [.data, .data, .data], laidTests := true, laidLooks := .later }
def FnExactStorePutCardSaid : Prop := Claim7.holds Tryd.pinned (.plain (OpenSpec.ofChange fnExactStorePutSpec)) fnExactStorePutCard

/-- THE TIED CARD OF 'laws.FnExactStoreOk'. -/
def fnExactStoreOkCard : Claim7 := { stood := { row := fnExactStoreOkRow, standIns := [], harness := (true, "0e9b665011e4f721657ff7c5700ab928dce11011b0b12d8a34c2b2820685f6a2"), looks := false }, kinds := [], alts := [], laidByText := true, laidKinds := [.data, .data, .data], laidTests := true, laidLooks := .later }
def FnExactStoreOkCardSaid : Prop := Claim7.holds Tryd.pinned (.plain (OpenSpec.ofChange fnExactStoreOkSpec)) fnExactStoreOkCard

/-- THE SECOND FORM's CARD OF 'laws.FnExactStoreDrop'. -/
def fnExactStoreDropUptoCard : Claim7 := { stood := { row := fnExactStoreDropUptoRow, standIns := [], harness := (true, "0e9b665011e4f721657ff7c5700ab928dce11011b0b12d8a34c2b2820685f6a2"), looks := false }, kinds := [], alts := [], laidByText := true, laidKinds := [.data, .data, .data], laidTests := true, laidLooks := .later }
def FnExactStoreDropUptoCardSaid : Prop := Claim7.holds Tryd.pinned (.plain (OpenSpec.upto fnExactStoreDropSpec)) fnExactStoreDropUptoCard

/-- THE SECOND FORM's CARD OF 'laws.FnExactStoreGet'. -/
def fnExactStoreGetUptoCard : Claim7 := { stood := { row := fnExactStoreGetUptoRow, standIns := [], harness := (true, "0e9b665011e4f721657ff7c5700ab928dce11011b0b12d8a34c2b2820685f6a2"), looks := false }, kinds := [], alts := [], laidByText := true, laidKinds := [.data, .data, .data], laidTests := true, laidLooks := .later }
def FnExactStoreGetUptoCardSaid : Prop := Claim7.holds Tryd.pinned (.plain (OpenSpec.upto fnExactStoreGetSpec)) fnExactStoreGetUptoCard

/-- THE SECOND FORM's CARD OF 'laws.FnExactStorePut'. -/
def fnExactStorePutUptoCard : Claim7 := { stood := { row := fnExactStorePutUptoRow, standIns := [], harness := (true, "0e9b665011e4f721657ff7c5700ab928dce11011b0b12d8a34c2b2820685f6a2"), looks := false }, kinds := [], alts := [], laidByText := true, laidKinds := [.data, .data, .data], laidTests := true, laidLooks := .later }
def FnExactStorePutUptoCardSaid : Prop := Claim7.holds Tryd.pinned (.plain (OpenSpec.upto fnExactStorePutSpec)) fnExactStorePutUptoCard

/-- THE SECOND FORM's CARD OF 'laws.FnExactStoreOk'. -/
def fnExactStoreOkUptoCard : Claim7 := { stood := { row := fnExactStoreOkUptoRow, standIns := [], harness := (true, "0e9b665011e4f721657ff7c5700ab928dce11011b0b12d8a34c2b2820685f6a2"), looks := false }, kinds := [], alts := [], laidByText := true, laidKinds := [.data, .data, .data], laidTests := true, laidLooks := .later }
def FnExactStoreOkUptoCardSaid : Prop := Claim7.holds Tryd.pinned (.plain (OpenSpec.upto fnExactStoreOkSpec)) fnExactStoreOkUptoCard
end Rows
end Go.Proofs.YtmomacjbffkokaaDoor

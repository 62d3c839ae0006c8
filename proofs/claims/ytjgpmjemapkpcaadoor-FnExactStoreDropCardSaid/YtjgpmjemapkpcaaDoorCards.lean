/-
  DERIVED. GIVEN WITH THE SEED: THE CARDS: each row of YtjgpmjemapkpcaaDoorRows.lean that lists a variable, with what it lists TIED to the program's text (the seventh form; the later family's looks); each row that meets fmt, with fmt's text TOLD by the authors' own Lean function (tested against real Go, not proved from fmt's source: count such statements apart). THE CARD IS WHAT COUNTS. Prove the row's statement (the work); the ties are given (YtjgpmjemapkpcaaDoorTie.lean); close each card by the builder's one call (the guide's Derived/Test/ToyasCard.lean, 'card_holds'). Laid BY PROGRAM, IN A SANDBOX (cutbox-door.mjs). By AI agents, Wed Nov 11 2026. No macro, syntax, notation, axiom, sorry.
-/
import Derived.Test.YtjgpmjemapkpcaaDoorRows
import GoSem.ClaimSeven
namespace Go.Proofs.YtjgpmjemapkpcaaDoor
namespace Rows

/-- THE TIED CARD OF 'laws.FnExactStoreOk'. -/
def fnExactStoreOkCard : Claim7 := { stood := { row := fnExactStoreOkRow, standIns := [], harness := (true, "4e42376293ef4f479463cdcfcbf1be502ccee466e1828f30e0aec14262b5a5f7"), looks := false }, kinds := [], alts := [], laidByText := true, laidKinds := [.data, .data, .data], laidTests := true, laidLooks := .later }
def FnExactStoreOkCardSaid : Prop := Claim7.holds Tryd.pinned (.plain (OpenSpec.ofChange fnExactStoreOkSpec)) fnExactStoreOkCard

/-- THE TIED CARD OF 'laws.FnExactStoreDrop'. -/
def fnExactStoreDropCard : Claim7 := { stood := { row := fnExactStoreDropRow, standIns := [], harness := (true, "4e42376293ef4f479463cdcfcbf1be502ccee466e1828f30e0aec14262b5a5f7"), looks := false }, kinds := [], alts := [], laidByText := true, laidKinds := [.data, .data, .data], laidTests := true, laidLooks := .later }
def FnExactStoreDropCardSaid : Prop := Claim7.holds Tryd.pinned (.plain (OpenSpec.ofChange fnExactStoreDropSpec)) fnExactStoreDropCard

/-- THE SECOND FORM's CARD OF 'laws.FnExactStoreOk'. -/
def fnExactStoreOkUptoCard : Claim7 := { stood := { row := fnExactStoreOkUptoRow, standIns := [], harness := (true, "4e42376293ef4f479463cdcfcbf1be502ccee466e1828f30e0aec14262b5a5f7"), looks := false }, kinds := [], alts := [], laidByText := true, laidKinds := [.data, .data, .data], laidTests := true, laidLooks := .later }
def FnExactStoreOkUptoCardSaid : Prop := Claim7.holds Tryd.pinned (.plain (OpenSpec.upto fnExactStoreOkSpec)) fnExactStoreOkUptoCard

/-- THE SECOND FORM's CARD OF 'laws.FnExactStoreDrop'. -/
def fnExactStoreDropUptoCard : Claim7 := { stood := { row := fnExactStoreDropUptoRow, standIns := [], harness := (true, "4e42376293ef4f479463cdcfcbf1be502ccee466e1828f30e0aec14262b5a5f7"), looks := false }, kinds := [], alts := [], laidByText := true, laidKinds := [.data, .data, .data], laidTests := true, laidLooks := .later }
def FnExactStoreDropUptoCardSaid : Prop := Claim7.holds Tryd.pinned (.plain (OpenSpec.upto fnExactStoreDropSpec)) fnExactStoreDropUptoCard
end Rows
end Go.Proofs.YtjgpmjemapkpcaaDoor

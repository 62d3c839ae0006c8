/-
  DERIVED. GIVEN WITH THE SEED: THE CARDS: each row of YtgjnlphnbfpopaaGreatDoorRows.lean that lists a variable, with what it lists TIED to the program's text (the seventh form; the later family's looks); each row that meets fmt, with fmt's text TOLD by the authors' own Lean function (tested against real Go, not proved from fmt's source: count such statements apart). THE CARD IS WHAT COUNTS. Prove the row's statement (the work); the ties are given (YtgjnlphnbfpopaaGreatDoorTie.lean); close each card by the builder's one call (the guide's Derived/Test/ToyasCard.lean, 'card_holds'). Laid BY PROGRAM, IN A SANDBOX (cutbox-door.mjs). By AI agents, Wed Nov 11 2026. No macro, syntax, notation, axiom, sorry.
-/
import Derived.Test.YtgjnlphnbfpopaaGreatDoorRows
import GoSem.ClaimSeven
namespace Go.Proofs.YtgjnlphnbfpopaaGreatDoor
namespace Rows

/-- THE TIED CARD OF 'laws.FnExactPutType'. -/
def fnExactPutTypeCard : Claim7 := { stood := { row := fnExactPutTypeRow, standIns := [], harness := (true, "79b15f2be8ec9fbdcad69e8b03610cdabf381d8d8e16692c72eabcf0b6082a14"), looks := true }, kinds := [], alts := [], laidByText := true, laidKinds := [.data, .data, .data, .data], laidTests := true, laidLooks := .later }
def FnExactPutTypeCardSaid : Prop := Claim7.holds Tryz.pinned (.plain (OpenSpec.ofChange fnExactPutTypeSpec)) fnExactPutTypeCard

/-- THE SECOND FORM's CARD OF 'laws.FnExactPutType'. -/
def fnExactPutTypeUptoCard : Claim7 := { stood := { row := fnExactPutTypeUptoRow, standIns := [], harness := (true, "79b15f2be8ec9fbdcad69e8b03610cdabf381d8d8e16692c72eabcf0b6082a14"), looks := true }, kinds := [], alts := [], laidByText := true, laidKinds := [.data, .data, .data, .data], laidTests := true, laidLooks := .later }
def FnExactPutTypeUptoCardSaid : Prop := Claim7.holds Tryz.pinned (.plain (OpenSpec.upto fnExactPutTypeSpec)) fnExactPutTypeUptoCard
end Rows
end Go.Proofs.YtgjnlphnbfpopaaGreatDoor

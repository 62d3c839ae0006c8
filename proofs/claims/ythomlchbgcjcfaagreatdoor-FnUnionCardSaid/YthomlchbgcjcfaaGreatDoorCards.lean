/-
  DERIVED. GIVEN WITH THE SEED: THE CARDS: each row of YthomlchbgcjcfaaGreatDoorRows.lean that lists a variable, with what it lists TIED to the program's text (the seventh form; the later family's looks); each row that meets fmt, with fmt's text TOLD by the authors' own Lean function (tested against real Go, not proved from fmt's source: count such statements apart). THE CARD IS WHAT COUNTS. Prove the row's statement (the work); the ties are given (YthomlchbgcjcfaaGreatDoorTie.lean); close each card by the builder's one call (the guide's Derived/Test/ToyasCard.lean, 'card_holds'). Laid BY PROGRAM, IN A SANDBOX (cutbox-door.mjs). By AI agents, Wed Nov 11 2026. No macro, syntax, notation, axiom, sorry.
-/
import Derived.Test.YthomlchbgcjcfaaGreatDoorRows
import GoSem.ClaimSeven
namespace Go.Proofs.YthomlchbgcjcfaaGreatDoor
namespace Rows

/-- THE TIED CARD OF 'laws.FnUnion'. -/
def fnUnionCard : Claim7 := { stood := { row := fnUnionRow, standIns := [], harness := (true, "326677d3ed794b6f0f25e54f83e5e5319a0f74e01319db8e925eefe02c1f17b4"), looks := true }, kinds := [], alts := [], laidByText := true, laidKinds := [.data], laidTests := true, laidLooks := .later }
def FnUnionCardSaid : Prop := Claim7.holds Tryz.pinned (.plain (OpenSpec.ofChange fnUnionSpec)) fnUnionCard

/-- THE SECOND FORM's CARD OF 'laws.FnUnion'. -/
def fnUnionUptoCard : Claim7 := { stood := { row := fnUnionUptoRow, standIns := [], harness := (true, "326677d3ed794b6f0f25e54f83e5e5319a0f74e01319db8e925eefe02c1f17b4"), looks := true }, kinds := [], alts := [], laidByText := true, laidKinds := [.data], laidTests := true, laidLooks := .later }
def FnUnionUptoCardSaid : Prop := Claim7.holds Tryz.pinned (.plain (OpenSpec.upto fnUnionSpec)) fnUnionUptoCard
end Rows
end Go.Proofs.YthomlchbgcjcfaaGreatDoor

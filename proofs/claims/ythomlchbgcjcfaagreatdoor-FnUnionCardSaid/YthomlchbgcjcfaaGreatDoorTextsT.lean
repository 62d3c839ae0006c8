/-
  The walks of the law's own helpers toStringS (a copy in new memory) and eqStringS (at two lists of the same texts).
-/
import Derived.Test.YthomlchbgcjcfaaGreatDoorTextsW
namespace Go.Proofs.YthomlchbgcjcfaaGreatDoor
open Go.RowKit

end Go.Proofs.YthomlchbgcjcfaaGreatDoor

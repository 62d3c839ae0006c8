/-
  The walk of the law's own helper szStringS.
-/
import Derived.Test.YthomlchbgcjcfaaGreatDoorTextsD
namespace Go.Proofs.YthomlchbgcjcfaaGreatDoor
open Go.RowKit

/-- what szStringS answers -/
def szS (ts : List ByteArray) (left : Int) : Int := if (ts.length : Int) + sumS ts ≤ left then left - ts.length - sumS ts else -1

end Go.Proofs.YthomlchbgcjcfaaGreatDoor

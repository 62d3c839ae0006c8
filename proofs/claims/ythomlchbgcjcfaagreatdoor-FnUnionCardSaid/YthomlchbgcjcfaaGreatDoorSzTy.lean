/-
  The walks of the laws' own helpers szType and szTypeS: how much a type holds, or -1 where it is more than is left.
-/
import Derived.Test.YthomlchbgcjcfaaGreatDoorTyD
import Derived.Test.YthomlchbgcjcfaaGreatDoorTextsW
namespace Go.Proofs.YthomlchbgcjcfaaGreatDoor
open Go.RowKit

theorem bulk_texts (l : List ByteArray) : Ty.textsBulk l = sumS l := by
  induction l with
  | nil => rfl
  | cons t r ih => rw [Ty.textsBulk, sumS, ih]

/-- what is left behind so much -/
def leftOf (b : Nat) (left : Int) : Int := if (b : Int) ≤ left then left - b else -1
def rowBulk (n : Nat) (ks : List Ty) : Nat := ks.length + (ks.map (Ty.bulk n)).sum

theorem sum_more (n : Nat) (ks : List Ty) (k : Nat) (h : k < ks.length) : ((ks.take (k + 1)).map (Ty.bulk n)).sum = ((ks.take k).map (Ty.bulk n)).sum + Ty.bulk n ks[k] := by
  rw [List.take_succ_eq_append_getElem h, List.map_append, List.sum_append]
  simp
theorem sum_le (n : Nat) (ks : List Ty) (k : Nat) : ((ks.take k).map (Ty.bulk n)).sum ≤ (ks.map (Ty.bulk n)).sum := by
  have : ks.map (Ty.bulk n) = (ks.take k).map (Ty.bulk n) ++ (ks.drop k).map (Ty.bulk n) := by rw [← List.map_append, List.take_append_drop]
  rw [this, List.sum_append]
  omega

end Go.Proofs.YthomlchbgcjcfaaGreatDoor

/-
  The walk of the law's own helper markText, alone.
-/
import Derived.Test.YtikoacgfnojoeaaGreatDoorRows
import Derived.WalkKit
import Derived.WalkSpells
import Derived.WalkLawsBesides
import Derived.Laws.BytesArg
import Derived.Deep.RegionWith
namespace Go.Proofs.YtikoacgfnojoeaaGreatDoor
open Go.RowKit

def ints (l : List Nat) : List Int := l.map fun (x : Nat) => (x : Int)
def cellsOf (l : List Nat) : List Value := (ints l).map (Value.int .u8)

theorem conv_own {P : Program} {B e src dst : Nat} {w1 : World} {v : Value} {l : List Nat} (hs : P.underlying src = some (.slice e)) (he : P.underlying e = some (.int .u8)) (hd : P.underlying dst = some .string)
    (hown : w1.ownsRow B e 1 v l.length (cellsOf l)) (hne : l ≠ []) : (convert src dst v).run P w1 = .ok (.string (strOfNums (ints l))) w1 := by
  have h0 := hown
  rcases hown.2 with ⟨_, h⟩ | ⟨g, cap, cur, rfl, hg, hh, hnc, hcp, hcs, htake⟩
  · exact absurd (List.length_eq_zero_iff.1 h) hne
  · refine run_convert_bytes_arg w1 src e hs he g 0 l.length cap (ints l) (by simp [ints]) (fun i hi => ?_) dst hd
    rw [Nat.zero_add]
    have := h0.cellAt i (by simpa using hi)
    rw [this]
    simp [cellsOf, ints, hi]

/-- decimal digits -/
def digs : Nat → Nat → List Nat
  | 0, _ => []
  | f + 1, k => if k = 0 then [] else digs f (k / 10) ++ [48 + k % 10]
theorem digs_zero (f : Nat) : digs f 0 = [] := by cases f <;> simp [digs]
theorem digs_more (f k : Nat) (h : 0 < k) : digs (f + 1) k = digs f (k / 10) ++ [48 + k % 10] := by
  rw [digs, if_neg (by omega)]

/-- a mark -/
def markB (k : Nat) : ByteArray := strOfNums (ints (109 :: digs 20 k))

theorem str_cons (a : Nat) (l : List Nat) : strOfNums (ints [a]) ++ strOfNums (ints l) = strOfNums (ints (a :: l)) := by
  apply ByteArray.ext
  simp [strOfNums, ints]

end Go.Proofs.YtikoacgfnojoeaaGreatDoor

/-
  The walks of the law's own helpers markStringS and heldStringS, with what of memory they let be.
-/
import Derived.Test.YtikoacgfnojoeaaGreatDoorMarkB
import Derived.Test.YtikoacgfnojoeaaGreatDoorToTy
namespace Go.Proofs.YtikoacgfnojoeaaGreatDoor
open Go.RowKit

/-- nothing has turned but blocks from lo up to hi, and new ones -/
structure Only (lo hi : Nat) (w w' : World) : Prop where
  os : w'.os = w.os
  tape : w'.tape = w.tape
  output : w'.output = w.output
  size : w.heap.size ≤ w'.heap.size
  block : ∀ b, b < w.heap.size → b < lo ∨ hi ≤ b → w'.heap[b]? = w.heap[b]?
theorem Only.refl (lo hi : Nat) (w : World) : Only lo hi w w := ⟨rfl, rfl, rfl, Nat.le_refl _, fun _ _ _ => rfl⟩
theorem Only.trans {lo hi : Nat} {a b c : World} (h : Only lo hi a b) (k : Only lo hi b c) : Only lo hi a c := ⟨k.os.trans h.os, k.tape.trans h.tape, k.output.trans h.output, Nat.le_trans h.size k.size, fun x hx ho => (k.block x (Nat.lt_of_lt_of_le hx h.size) ho).trans (h.block x hx ho)⟩
theorem Only.mono {lo hi lo' hi' : Nat} {a b : World} (h : Only lo hi a b) (hl : lo' ≤ lo) (hh : hi ≤ hi') : Only lo' hi' a b := ⟨h.os, h.tape, h.output, h.size, fun x hx ho => h.block x hx (by omega)⟩
theorem Only.of_below {lo hi : Nat} {w w' : World} (h : Below w.heap.size w w') : Only lo hi w w' := ⟨h.os, h.tape, h.output, h.size, fun x hx _ => h.block x hx⟩
theorem Only.set {lo hi : Nat} (w : World) (a : Addr) (u : Value) (h : lo ≤ a.block ∧ a.block < hi) : Only lo hi w (w.setCell a u) := by
  have h0 : Below 0 w (w.setCell a u) := (Below.refl 0 w).setCell (Nat.zero_le _) u
  exact ⟨h0.os, h0.tape, h0.output, h0.size, fun b _ ho => Below.heap_setCell w a u b (by omega)⟩
theorem Only.below {lo hi B : Nat} {w w' : World} (h : Only lo hi w w') (hB : B ≤ lo) (hw : B ≤ w.heap.size) : Below B w w' := ⟨h.os, h.tape, h.output, h.size, fun x hx => h.block x (by omega) (.inl (by omega))⟩
theorem Only.same {lo hi lo' hi' : Nat} {w w' : World} (h : Only lo hi w w') (hs : hi' ≤ w.heap.size) (hd : hi' ≤ lo ∨ hi ≤ lo') : Same lo' hi' w w' := fun b h1 h2 => h.block b (by omega) (by omega)

def marksV (k0 n : Nat) : List Value := (List.range n).map fun j => Value.string (markB (k0 + j))
theorem marksV_length (k0 n : Nat) : (marksV k0 n).length = n := by simp [marksV]
theorem marksV_get (k0 n j : Nat) (h : j < n) : (marksV k0 n)[j]? = some (.string (markB (k0 + j))) := by simp [marksV, h]
theorem marksV_more (k0 n : Nat) : marksV k0 (n + 1) = marksV k0 n ++ [.string (markB (k0 + n))] := by simp [marksV, List.range_succ]
def halfM (xs : List Value) (k0 j : Nat) : List Value := marksV k0 j ++ xs.drop j
theorem halfM_set (xs : List Value) (k0 j : Nat) (h : j < xs.length) : (halfM xs k0 j).set j (.string (markB (k0 + j))) = halfM xs k0 (j + 1) := by
  unfold halfM
  rw [List.set_append_right _ _ (by rw [marksV_length]; exact Nat.le_refl _), marksV_length, Nat.sub_self, List.drop_eq_getElem_cons h, List.set_cons_zero, marksV_more, List.append_assoc]
  rfl
theorem slice_ownM {w : World} {B e z : Nat} {v : Value} {n : Nat} {xs : List Value} (h : w.ownsRow B e z v n xs) : ∃ a cap, v = .slice a n cap := by
  rcases h.2 with ⟨rfl, h0⟩ | ⟨g, cap, cur, hv, _⟩
  · exact ⟨none, 0, by rw [h0]⟩
  · exact ⟨_, cap, hv⟩

end Go.Proofs.YtikoacgfnojoeaaGreatDoor

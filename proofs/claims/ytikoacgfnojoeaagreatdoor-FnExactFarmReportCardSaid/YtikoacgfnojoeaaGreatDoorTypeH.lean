/-
  Four cells of a block; boxes.
-/
import Derived.Test.YtikoacgfnojoeaaGreatDoorTypeD
namespace Go.Proofs.YtikoacgfnojoeaaGreatDoor
open Go.RowKit

theorem below3 {w : World} (A B C D : Obj) : Below (w.heap.size + 1) (w.alloc A) ((((w.alloc A).alloc B).alloc C).alloc D) := (((Below.refl _ _).alloc (by simp) _).alloc (by simp) _).alloc (by simp) _

theorem block4 {W : World} {b : Nat} {x0 x1 x2 x3 : Value} (h : W.heap[b]? = some (.cells #[x0, x1, x2, x3] 131 (0, 0))) :
    (W.cell? ⟨b, 0, none⟩ = some x0 ∧ W.cell? ⟨b, 1, none⟩ = some x1 ∧ W.cell? ⟨b, 2, none⟩ = some x2 ∧ W.cell? ⟨b, 3, none⟩ = some x3) ∧ ∀ j, W.frozen? ⟨b, j, none⟩ = false := by
  refine ⟨⟨?_, ?_, ?_, ?_⟩, fun j => frozen_of_row W b j _ _ h⟩
  · rw [cell_of_row W b 0 _ _ (0, 0) h]; rfl
  · rw [cell_of_row W b 1 _ _ (0, 0) h]; rfl
  · rw [cell_of_row W b 2 _ _ (0, 0) h]; rfl
  · rw [cell_of_row W b 3 _ _ (0, 0) h]; rfl
theorem put_below {B b : Nat} {w0 w : World} {x0 x1 x2 x3 : Value} (h : Below B w w0) (hb : B ≤ b) : Below B w ((((w0.setCell ⟨b, 0, none⟩ x0).setCell ⟨b, 1, none⟩ x1).setCell ⟨b, 2, none⟩ x2).setCell ⟨b, 3, none⟩ x3) := (((h.setCell hb _).setCell hb _).setCell hb _).setCell hb _
theorem put_other {b c : Nat} {w0 : World} {x0 x1 x2 x3 : Value} (h : c ≠ b) : ((((w0.setCell ⟨b, 0, none⟩ x0).setCell ⟨b, 1, none⟩ x1).setCell ⟨b, 2, none⟩ x2).setCell ⟨b, 3, none⟩ x3).heap[c]? = w0.heap[c]? := by
  rw [Below.heap_setCell _ _ _ _ (by simpa using h), Below.heap_setCell _ _ _ _ (by simpa using h), Below.heap_setCell _ _ _ _ (by simpa using h), Below.heap_setCell _ _ _ _ (by simpa using h)]
/-- the two boxes of the function, in a later world -/
theorem boxes {w W : World} {A B : Obj} {C : Obj} (h : Below (w.heap.size + 1 + 1 + 1) (((w.alloc A).alloc B).alloc C) W) : W.heap[w.heap.size]? = some A ∧ W.heap[w.heap.size + 1]? = some B := by
  refine ⟨(h.block _ (by omega)).trans ?_, (h.block _ (by omega)).trans ?_⟩
  · exact ((MapKept.heap_alloc ((w.alloc A).alloc B) C).2 _ (by simp; omega)).trans (heap_first w A B)
  · exact ((MapKept.heap_alloc ((w.alloc A).alloc B) C).2 _ (by simp)).trans (heap_second w A B)

end Go.Proofs.YtikoacgfnojoeaaGreatDoor

/-
  The walks of the laws' own helpers eqType and eqTypeS, at two values that hold the same type.
-/
import Derived.Test.YthomlchbgcjcfaaGreatDoorSzTy
import Derived.Test.YthomlchbgcjcfaaGreatDoorTextsT
import Derived.Deep.RegionWith
namespace Go.Proofs.YthomlchbgcjcfaaGreatDoor
open Go.RowKit

theorem bcellT {W w1 : World} (hb : Below W.heap.size W w1) : (∀ b o, b < W.heap.size → w1.cell? ⟨b, o, none⟩ = W.cell? ⟨b, o, none⟩) ∧ (∀ b o, b < W.heap.size → w1.frozen? ⟨b, o, none⟩ = W.frozen? ⟨b, o, none⟩) :=
  ⟨fun b o h => hb.cell (p := ⟨b, o, none⟩) h, fun b o h => hb.frozen (p := ⟨b, o, none⟩) h⟩

theorem kid_bulk (n : Nat) (ks : List Ty) (k : Nat) (h : k < ks.length) : Ty.bulk n ks[k] ≤ (ks.map (Ty.bulk n)).sum := by
  have h1 := sum_more n ks k h
  have h2 := sum_le n ks (k + 1)
  omega

theorem rowOpen {w : World} {n : Nat} {v : Value} {ks : List Ty} (hrow : RowAt w (TyAt w n) v ks) : ∃ av capv, v = .slice av ks.length capv ∧ ∀ j (h : j < ks.length), ∃ b off x0 x1 x2 x3, av = some ⟨b, off, none⟩ ∧ b < w.heap.size ∧ TyAt w n [x0, x1, x2, x3] ks[j] ∧ w.cell? ⟨b, off + j * 4, none⟩ = some x0 ∧ w.cell? ⟨b, off + j * 4 + 1, none⟩ = some x1 ∧ w.cell? ⟨b, off + j * 4 + 2, none⟩ = some x2 ∧ w.cell? ⟨b, off + j * 4 + 3, none⟩ = some x3 := by
  rcases hrow with ⟨h, a, cap, e⟩ | ⟨b, off, cap, e, hc⟩
  · exact ⟨a, cap, by rw [h]; exact e, fun j hj => by rw [h] at hj; simp at hj⟩
  · refine ⟨_, cap, e, fun j hj => ?_⟩
    obtain ⟨cs', h1, h2⟩ := hc j hj
    have hlen := h1.len
    match cs', hlen with
    | [x0, x1, x2, x3], _ => exact ⟨b, off, x0, x1, x2, x3, rfl, World.block_lt_of_cell? w ⟨b, off + j * 4 + 0, none⟩ (h2 0 x0 rfl), h1, h2 0 x0 rfl, h2 1 x1 rfl, h2 2 x2 rfl, h2 3 x3 rfl⟩

end Go.Proofs.YthomlchbgcjcfaaGreatDoor

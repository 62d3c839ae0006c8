/-
  What the four cells of a type look like.
-/
import Derived.Test.YtikoacgfnojoeaaGreatDoorTyD
namespace Go.Proofs.YtikoacgfnojoeaaGreatDoor
open Go.RowKit

theorem TyAt.shape {w : World} {n : Nat} {cs : List Value} {t : Ty} (h : TyAt w n cs t) : ∃ an ln cn ak lk ck, cs = [.int .i64 t.kind, .string t.name, .slice an ln cn, .slice ak lk ck] := by
  cases n with
  | zero => exact h.elim
  | succ n =>
    obtain ⟨vn, vk, h1, _, _, ⟨h4, _, _⟩, _, h6⟩ := h
    obtain ⟨a, l, c, e1⟩ : ∃ a l c, vn = .slice a l c := by
      rcases h4 with ⟨_, a, c, q⟩ | ⟨g, off, c, q, _⟩
      · exact ⟨a, _, c, q⟩
      · exact ⟨_, _, c, q⟩
    obtain ⟨a', l', c', e2⟩ : ∃ a l c, vk = .slice a l c := by
      rcases h6 with ⟨_, a, c, q⟩ | ⟨g, off, c, q, _⟩
      · exact ⟨a, _, c, q⟩
      · exact ⟨_, _, c, q⟩
    exact ⟨a, l, c, a', l', c', by rw [h1, e1, e2]⟩

end Go.Proofs.YtikoacgfnojoeaaGreatDoor

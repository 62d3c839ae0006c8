/-
  Types and lists of types that are read, read deeper.
-/
import Derived.Test.YtikoacgfnojoeaaGreatDoorNmD
namespace Go.Proofs.YtikoacgfnojoeaaGreatDoor
open Go.RowKit

theorem TyAt.deeper {w : World} {n : Nat} {cs : List Value} {t : Ty} (h : TyAt w n cs t) : TyAt w (n + 1) cs t := by
  induction n generalizing cs t with
  | zero => exact h.elim
  | succ n ih =>
    obtain ⟨vn, vk, h1, h2, h3, h4, h5, hr⟩ := h
    refine ⟨vn, vk, h1, h2, h3, h4, h5, ?_⟩
    rcases hr with hr | ⟨b, off, cap, e, hc⟩
    · exact .inl hr
    · exact .inr ⟨b, off, cap, e, fun j hj => by
        obtain ⟨cs, k1, k2⟩ := hc j hj
        exact ⟨cs, ih k1, k2⟩⟩
theorem EnvAt.deeper {w : World} {n : Nat} {v : Value} {es : List (ByteArray × Ty)} (h : EnvAt w n v es) : EnvAt w (n + 1) v es := by
  rcases h with h | ⟨b, off, cap, e, hc⟩
  · exact .inl h
  · exact .inr ⟨b, off, cap, e, fun j hj => by
      obtain ⟨cs, ⟨cs', k1, k2, k3⟩, k4⟩ := hc j hj
      exact ⟨cs, ⟨cs', k1, k2, k3.deeper⟩, k4⟩⟩
theorem EnvAt.deep {w : World} {n m : Nat} {v : Value} {es : List (ByteArray × Ty)} (h : EnvAt w n v es) (hm : n ≤ m) : EnvAt w m v es := by
  obtain ⟨k, rfl⟩ : ∃ k, m = n + k := ⟨m - n, by omega⟩
  clear hm
  induction k with
  | zero => exact h
  | succ k ih => exact ih.deeper

end Go.Proofs.YtikoacgfnojoeaaGreatDoor

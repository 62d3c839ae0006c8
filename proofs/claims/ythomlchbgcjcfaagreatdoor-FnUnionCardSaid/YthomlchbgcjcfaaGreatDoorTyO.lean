/-
  A type that is handed in, opened: the four cells that are read as a type hold a tree.
-/
import Derived.Test.YthomlchbgcjcfaaGreatDoorTyD
import Derived.Deep.Strs
import Derived.ProofKit
import Derived.OpenShut
namespace Go.Proofs.YthomlchbgcjcfaaGreatDoor
open Go.ChangeShapes Go.WideShapes Go.ChangeAt Go.RowKit

theorem RowAt.map {w : World} {R R' : List Value → Ty → Prop} {v : Value} {ts : List Ty} (h : RowAt w R v ts) (hR : ∀ cs t, t ∈ ts → R cs t → R' cs t) : RowAt w R' v ts := h.below (Below.refl _ _) hR

theorem TyAt.mono {w : World} {n m : Nat} {cs : List Value} {t : Ty} (h : TyAt w n cs t) (hnm : n ≤ m) : TyAt w m cs t := by
  induction n generalizing m cs t with
  | zero => exact h.elim
  | succ n ih =>
    obtain ⟨k, rfl⟩ : ∃ k, m = k + 1 := ⟨m - 1, by omega⟩
    obtain ⟨vn, vk, h1, h2, h3, h4, h5, h6⟩ := h
    exact ⟨vn, vk, h1, h2, h3, h4, h5, h6.map fun cs t _ h => ih h (by omega)⟩

theorem opened_texts {H : Type} {enc : TypeId × Value → H} {W : World} {base : Nat} {sp : Nat → Bool} {held : Bool} {fuel : Nat} {v : Value} {x : DataW H × List MemPlace} (h : DataW.trod enc Tryz.prog W base sp held fuel 26 [v] = some x) :
    ∃ ts, Texts W v ts ∧ ts.length ≤ maxLen ∧ ∀ t ∈ ts, t.size ≤ maxLen := by
  rcases open_strings Tryz.underlying26 Tryz.underlying9 (by kernel_rfl) h with ⟨hcs, _⟩ | ⟨a, l, c, ss, hcs, _, hlc, hm, hz, _, hcell, hws⟩
  · obtain rfl : v = .slice none 0 0 := by simpa using hcs
    exact ⟨[], .inl ⟨rfl, _, _, rfl⟩, by simp, by simp⟩
  · obtain rfl : v = .slice (some a) l c := by simpa using hcs
    have hzl : l ≤ ss.length := by rw [hz]; split <;> omega
    have hlen : (ss.take l).length = l := by simp; omega
    refine ⟨ss.take l, ?_, by omega, fun t ht => hws t (List.mem_of_mem_take ht)⟩
    by_cases h00 : l = 0
    · subst h00
      exact .inl ⟨by simp, _, _, rfl⟩
    · obtain ⟨b, off, spot⟩ := a
      have hc := hcell 0 (by omega)
      have hspot : spot = none := by simpa [Addr.add] using World.cell?_spot hc
      subst hspot
      refine .inr ⟨b, off, c, by rw [hlen], fun j hj => ?_⟩
      have hjl : j < ss.length := by omega
      have := hcell j hjl
      rw [Addr.add_lit] at this
      rw [this]
      simp [hjl]

end Go.Proofs.YthomlchbgcjcfaaGreatDoor

/-
  What four cells that hold a type are; and a type that is handed in, opened.
-/
import Derived.Test.YtegdladpkikicaaTyP
import Derived.Test.YtegdladpkikicaaTextsD
import Derived.Deep.Slices
import Derived.Lib.SmallJoins
import Derived.ChangeArms
namespace Go.Proofs.Ytegdladpkikicaa
open Go.RowKit

/-- the value is a slice whose elements, of four cells each, are such -/
def RowAt (w : World) (R : List Value → Ty → Prop) (v : Value) (ts : List Ty) : Prop :=
  (ts = [] ∧ ∃ a cap, v = .slice a 0 cap) ∨ ∃ b off cap, v = .slice (some ⟨b, off, none⟩) ts.length cap ∧ ∀ j (h : j < ts.length), ∃ cs, R cs ts[j] ∧ ∀ c u, cs[c]? = some u → w.cell? ⟨b, off + j * 4 + c, none⟩ = some u

/-- these four cells hold the type, which is no deeper than that -/
def TyAt (w : World) : Nat → List Value → Ty → Prop
  | 0, _, _ => False
  | n + 1, cs, t => ∃ vn vk, cs = [.int .i64 t.kind, .string t.name, vn, vk] ∧ (-9223372036854775808 ≤ t.kind ∧ t.kind ≤ 9223372036854775807) ∧ t.name.size ≤ maxLen ∧ (Texts w vn t.names ∧ t.names.length ≤ maxLen ∧ ∀ x ∈ t.names, x.size ≤ maxLen) ∧ t.kids.length ≤ maxLen ∧ RowAt w (TyAt w n) vk t.kids

theorem RowAt.below {w w' : World} {R R' : List Value → Ty → Prop} {v : Value} {ts : List Ty} (h : RowAt w R v ts) (hb : Below w.heap.size w w') (hR : ∀ cs t, t ∈ ts → R cs t → R' cs t) : RowAt w' R' v ts := by
  rcases h with h | ⟨b, off, cap, rfl, hc⟩
  · exact .inl h
  · refine .inr ⟨b, off, cap, rfl, fun j hj => ?_⟩
    obtain ⟨cs, h1, h2⟩ := hc j hj
    refine ⟨cs, hR cs _ (List.getElem_mem hj) h1, fun c u hu => ?_⟩
    have := h2 c u hu
    exact (hb.cell (p := ⟨b, off + j * 4 + c, none⟩) (World.block_lt_of_cell? w ⟨b, off + j * 4 + c, none⟩ this)).trans this

theorem TyAt.len {w : World} {n : Nat} {cs : List Value} {t : Ty} (h : TyAt w n cs t) : cs.length = 4 := by
  cases n with
  | zero => exact h.elim
  | succ n =>
    obtain ⟨vn, vk, rfl, _⟩ := h
    rfl

theorem TyAt.below {w w' : World} {n : Nat} {cs : List Value} {t : Ty} (h : TyAt w n cs t) (hb : Below w.heap.size w w') : TyAt w' n cs t := by
  induction n generalizing cs t with
  | zero => exact h.elim
  | succ n ih =>
    obtain ⟨vn, vk, h1, h2, h3, ⟨h4, h5, h6⟩, h7, h8⟩ := h
    exact ⟨vn, vk, h1, h2, h3, ⟨h4.below hb, h5, h6⟩, h7, h8.below hb (fun cs t _ h => ih h)⟩

end Go.Proofs.Ytegdladpkikicaa

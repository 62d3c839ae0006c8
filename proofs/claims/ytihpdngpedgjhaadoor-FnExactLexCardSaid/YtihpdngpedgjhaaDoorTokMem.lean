/-
  What a value that holds a list of words is, to one who reads it.
-/
import Derived.Test.YtihpdngpedgjhaaDoorToksD
namespace Go.Proofs.YtihpdngpedgjhaaDoor
open Go.RowKit

/-- the value v is a slice that holds these words -/
def Toks (w : World) (v : Value) (ts : List Lx.Tok) : Prop :=
  (ts = [] ∧ ∃ a cap, v = .slice a 0 cap) ∨ ∃ g cap, v = .slice (some ⟨g, 0, none⟩) ts.length cap ∧ ∀ k (h : k < ts.length), w.cell? ⟨g, k * 4, none⟩ = some (.int .i64 (ts[k].kind : Nat)) ∧ w.cell? ⟨g, k * 4 + 1, none⟩ = some (.string ts[k].text) ∧ w.cell? ⟨g, k * 4 + 2, none⟩ = some (.int .i64 (ts[k].n : Nat)) ∧ w.cell? ⟨g, k * 4 + 3, none⟩ = some (.int .i64 (ts[k].line : Nat))

theorem Toks.below {w w' : World} {v : Value} {ts : List Lx.Tok} (h : Toks w v ts) (hb : Below w.heap.size w w') : Toks w' v ts := by
  rcases h with h | ⟨g, cap, rfl, hc⟩
  · exact .inl h
  · refine .inr ⟨g, cap, rfl, fun k hk => ?_⟩
    obtain ⟨h0, h1, h2, h3⟩ := hc k hk
    have hg : g < w.heap.size := World.block_lt_of_cell? w ⟨g, k * 4, none⟩ h0
    exact ⟨(hb.cell (p := ⟨g, k * 4, none⟩) hg).trans h0, (hb.cell (p := ⟨g, k * 4 + 1, none⟩) hg).trans h1, (hb.cell (p := ⟨g, k * 4 + 2, none⟩) hg).trans h2, (hb.cell (p := ⟨g, k * 4 + 3, none⟩) hg).trans h3⟩

theorem toks_own {w : World} {B : Nat} {v : Value} {ts : List Lx.Tok} (h : w.ownsRow B 35 4 v ts.length (toksV ts)) : Toks w v ts := by
  rcases h.2 with ⟨rfl, h0⟩ | ⟨g, cap, cur, hv, _⟩
  · exact .inl ⟨List.length_eq_zero_iff.1 h0, _, _, rfl⟩
  · subst hv
    refine .inr ⟨g, cap, rfl, fun k hk => ?_⟩
    have c : ∀ j, j < 4 → w.cell? ⟨g, k * 4 + j, none⟩ = (tokC ts[k])[j]? := fun j hj => by
      rw [h.cellAt (k * 4 + j) (by omega), toksV_get ts k j hk hj]
    exact ⟨c 0 (by decide), c 1 (by decide), c 2 (by decide), c 3 (by decide)⟩

end Go.Proofs.YtihpdngpedgjhaaDoor

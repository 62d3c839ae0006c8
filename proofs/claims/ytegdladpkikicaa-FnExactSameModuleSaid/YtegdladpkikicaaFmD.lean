/-
  A slice of records of so many cells each, whatever they are: what it is in memory, its sums, its rows that are filled one by one. No program here.
-/
import Derived.Test.YtegdladpkikicaaTextsD
namespace Go.Proofs.Ytegdladpkikicaa
open Go.RowKit

/-- a slice of records, each of so many cells, told by f -/
def RowA {α : Type} (z : Nat) (f : α → List Value) (w : World) (v : Value) (es : List α) : Prop :=
  (es = [] ∧ ∃ a cap, v = .slice a 0 cap) ∨ ∃ b off cap, v = .slice (some ⟨b, off, none⟩) es.length cap ∧ b < w.heap.size ∧ ∀ j (h : j < es.length) c u, (f es[j])[c]? = some u → w.cell? ⟨b, off + j * z + c, none⟩ = some u
theorem RowA.below {α : Type} {z : Nat} {f : α → List Value} {w w' : World} {v : Value} {es : List α} (h : RowA z f w v es) (hb : Below w.heap.size w w') : RowA z f w' v es := by
  rcases h with h | ⟨b, off, cap, e, hl, hc⟩
  · exact .inl h
  · exact .inr ⟨b, off, cap, e, Nat.lt_of_lt_of_le hl hb.size, fun j hj c u hu => (hb.cell (p := ⟨b, off + j * z + c, none⟩) hl).trans (hc j hj c u hu)⟩
theorem rowA_open {α : Type} {z : Nat} {f : α → List Value} {w : World} {v : Value} {es : List α} (h : RowA z f w v es) : ∃ av capv, v = .slice av es.length capv ∧ ∀ j (h : j < es.length), ∃ b off, av = some ⟨b, off, none⟩ ∧ b < w.heap.size ∧ ∀ c u, (f es[j])[c]? = some u → w.cell? ⟨b, off + j * z + c, none⟩ = some u := by
  rcases h with ⟨h, a, cap, e⟩ | ⟨b, off, cap, e, hl, hc⟩
  · exact ⟨a, cap, by rw [h]; exact e, fun j hj => by rw [h] at hj; simp at hj⟩
  · exact ⟨_, cap, e, fun j hj => ⟨b, off, rfl, hl, hc j hj⟩⟩

/-- how much is left -/
def leftA (b : Nat) (left : Int) : Int := if (b : Int) ≤ left then left - b else -1
theorem leftA_yes {b : Nat} {l : Int} (h : (b : Int) ≤ l) : leftA b l = l - b := if_pos h
theorem leftA_no {b : Nat} {l : Int} (h : ¬ (b : Int) ≤ l) : leftA b l = -1 := if_neg h
/-- how much records hold -/
def sumA {α : Type} (g : α → Nat) (es : List α) : Nat := (es.map g).sum
def bulkA {α : Type} (g : α → Nat) (es : List α) : Nat := es.length + sumA g es
theorem sumA_more {α : Type} (g : α → Nat) (es : List α) (k : Nat) (h : k < es.length) : sumA g (es.take (k + 1)) = sumA g (es.take k) + g es[k] := by
  unfold sumA
  rw [List.take_succ_eq_append_getElem h, List.map_append, List.sum_append]
  simp
theorem sumA_le {α : Type} (g : α → Nat) (es : List α) (k : Nat) : sumA g (es.take k) ≤ sumA g es := by
  unfold sumA
  have : es.map g = (es.take k).map g ++ (es.drop k).map g := by rw [← List.map_append, List.take_append_drop]
  rw [this, List.sum_append]
  omega
theorem bulkA_one {α : Type} (g : α → Nat) (es : List α) (k : Nat) (h : k < es.length) : g es[k] ≤ bulkA g es := by
  have h1 := sumA_more g es k h
  have h2 := sumA_le g es (k + 1)
  unfold bulkA
  omega

/-- a row's cells hold these records, as far as they go -/
def FillA {α : Type} (z : Nat) (f : α → List Value) (X : List Value) (es : List α) : Prop := ∀ j (h : j < es.length) c u, (f es[j])[c]? = some u → X[j * z + c]? = some u
theorem FillA.nil {α : Type} (z : Nat) (f : α → List Value) (X : List Value) : FillA z f X [] := fun j h => by simp at h
theorem FillA.more {α : Type} {z : Nat} {f : α → List Value} {X Y : List Value} {es : List α} (h : FillA z f X es) (hf : ∀ e ∈ es, (f e).length ≤ z) (e : α) (hold : ∀ i, i < es.length * z → Y[i]? = X[i]?) (hnew : ∀ c u, (f e)[c]? = some u → Y[es.length * z + c]? = some u) : FillA z f Y (es ++ [e]) := fun j hj c u hu => by
  by_cases hlt : j < es.length
  · rw [List.getElem_append_left hlt] at hu
    have hc : c < z := Nat.lt_of_lt_of_le (List.getElem?_eq_some_iff.1 hu).1 (hf _ (List.getElem_mem hlt))
    rw [hold (j * z + c) (by
      have : (j + 1) * z ≤ es.length * z := Nat.mul_le_mul_right z hlt
      rw [Nat.add_mul] at this
      omega)]
    exact h j hlt c u hu
  · have hje : j = es.length := by simp at hj; omega
    subst hje
    simp only [List.getElem_concat_length] at hu
    exact hnew c u hu
theorem FillA.row {α : Type} {z T B g cap : Nat} {f : α → List Value} {X : List Value} {es : List α} {w : World} (h : FillA z f X es) (ho : w.ownsRow B T z (.slice (some ⟨g, 0, none⟩) es.length cap) es.length X) : RowA z f w (.slice (some ⟨g, 0, none⟩) es.length cap) es := by
  refine .inr ⟨g, 0, cap, rfl, (ho.lt g rfl).2, fun j hj c u hu => ?_⟩
  have := h j hj c u hu
  rw [Nat.zero_add, ho.cellAt (j * z + c) (by have h1 := (List.getElem?_eq_some_iff.1 this).1; have h2 := ho.1; omega)]
  exact this
theorem rowKeptA {w w' : World} {B e z : Nat} {v : Value} {n : Nat} {xs : List Value} (h : w.ownsRow B e z v n xs) (hb : Below w.heap.size w w') : w'.ownsRow B e z v n xs := by
  refine ⟨h.1, ?_⟩
  rcases h.2 with e | ⟨g, c, cur, e1, e2, e3, e4⟩
  · exact .inl e
  · refine .inr ⟨g, c, cur, e1, e2, ?_, e4⟩
    rw [hb.block g (by
      have := h.lt g (by rw [e1]; rfl)
      exact this.2)]
    exact e3
theorem newA {w : World} {cs : Array Value} {t : TypeId} {b : Nat} (i : Nat) (h : b = w.heap.size) : (w.alloc (.cells cs t)).cell? ⟨b, i, none⟩ = cs[i]? := by
  subst h
  simp
theorem oldA {w : World} {o : Obj} {b : Nat} (i : Nat) (h : b < w.heap.size) : (w.alloc o).cell? ⟨b, i, none⟩ = w.cell? ⟨b, i, none⟩ := ((Below.refl w.heap.size w).alloc (Nat.le_refl _) o).cell (p := ⟨b, i, none⟩) h

end Go.Proofs.Ytegdladpkikicaa

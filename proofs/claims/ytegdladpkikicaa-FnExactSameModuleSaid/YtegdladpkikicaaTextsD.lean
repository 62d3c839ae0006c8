/-
  What a value that holds a list of texts is.
-/
import Derived.Test.YtegdladpkikicaaRows
import Derived.WalkKit
import Derived.WalkSpells
import Derived.WalkLawsBesides
import Derived.Deep.QuietTactic
import Derived.BigQuiet
namespace Go.Proofs.Ytegdladpkikicaa
open Go.RowKit

/-- the value v is a slice that holds these texts -/
def Texts (w : World) (v : Value) (ts : List ByteArray) : Prop :=
  (ts = [] ∧ ∃ a cap, v = .slice a 0 cap) ∨ ∃ b off cap, v = .slice (some ⟨b, off, none⟩) ts.length cap ∧ ∀ j (h : j < ts.length), w.cell? ⟨b, off + j, none⟩ = some (.string ts[j])

theorem Texts.below {w w' : World} {v : Value} {ts : List ByteArray} (h : Texts w v ts) (hb : Below w.heap.size w w') : Texts w' v ts := by
  rcases h with h | ⟨b, off, cap, rfl, hc⟩
  · exact .inl h
  · refine .inr ⟨b, off, cap, rfl, fun j hj => ?_⟩
    exact (hb.cell (p := ⟨b, off + j, none⟩) (World.block_lt_of_cell? w ⟨b, off + j, none⟩ (hc j hj))).trans (hc j hj)

/-- how many bytes texts have in all -/
def sumS : List ByteArray → Nat
  | [] => 0
  | t :: r => t.size + sumS r
theorem sumS_append (a b : List ByteArray) : sumS (a ++ b) = sumS a + sumS b := by
  induction a with
  | nil => simp [sumS]
  | cons t r ih => simp [sumS, ih]; omega
theorem sumS_more (ts : List ByteArray) (k : Nat) (h : k < ts.length) : sumS (ts.take (k + 1)) = sumS (ts.take k) + ts[k].size := by
  rw [List.take_succ_eq_append_getElem h, sumS_append]
  simp [sumS]
theorem sumS_take_le (ts : List ByteArray) (k : Nat) : sumS (ts.take k) ≤ sumS ts := by
  have := sumS_append (ts.take k) (ts.drop k)
  rw [List.take_append_drop] at this
  omega
theorem sumS_mem (ts : List ByteArray) (k : Nat) (h : k < ts.length) : ts[k].size ≤ sumS ts := by
  have h1 := sumS_more ts k h
  have h2 := sumS_take_le ts (k + 1)
  omega

theorem Try.infoString : (Try.prog.info? 9).map (fun i => (i.zero, i.size, i.bytes)) = some (some (.string ⟨#[]⟩), 1, 16) := by kernel_rfl

def strV (ts : List ByteArray) : List Value := ts.map Value.string
theorem strV_length (ts : List ByteArray) : (strV ts).length = ts.length := by simp [strV]
theorem strV_get (ts : List ByteArray) (j : Nat) (h : j < ts.length) : (strV ts)[j]? = some (.string ts[j]) := by simp [strV, h]

/-- a row whose first k places hold texts already -/
def rowK (ts : List ByteArray) (k : Nat) : List Value := strV (ts.take k) ++ List.replicate (ts.length - k) (Value.string ⟨#[]⟩)
theorem rowK_zero (ts : List ByteArray) : rowK ts 0 = List.replicate ts.length (Value.string ⟨#[]⟩) := by simp [rowK, strV]
theorem rowK_all (ts : List ByteArray) : rowK ts ts.length = strV ts := by simp [rowK, strV]
theorem rowK_set (ts : List ByteArray) (k : Nat) (h : k < ts.length) : (rowK ts k).set k (.string ts[k]) = rowK ts (k + 1) := by
  have hl : (strV (ts.take k)).length = k := by simp [strV]; omega
  have hr : ts.length - k = (ts.length - (k + 1)) + 1 := by omega
  have e : strV (ts.take (k + 1)) = strV (ts.take k) ++ [Value.string ts[k]] := by
    rw [strV, List.take_succ_eq_append_getElem h, List.map_append]
    rfl
  unfold rowK
  rw [List.set_append_right _ _ (by omega), hl, Nat.sub_self, hr, List.replicate_succ, List.set_cons_zero, e, List.append_assoc]
  rfl

/-- a row of its own that holds texts is a list of texts -/
theorem Texts.own {w : World} {B g cap : Nat} {ts : List ByteArray} (h : w.ownsRow B 9 1 (.slice (some ⟨g, 0, none⟩) ts.length cap) ts.length (strV ts)) : Texts w (.slice (some ⟨g, 0, none⟩) ts.length cap) ts := by
  refine .inr ⟨g, 0, cap, rfl, fun j hj => ?_⟩
  rw [Nat.zero_add, h.cellAt j (by omega), strV_get ts j hj]

end Go.Proofs.Ytegdladpkikicaa

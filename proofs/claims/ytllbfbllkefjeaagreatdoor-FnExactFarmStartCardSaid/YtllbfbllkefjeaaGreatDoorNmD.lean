/-
  What five cells that hold a name and a type are; a list of such.
  The walks of the laws' own helpers szNamed and szNamedS.
-/
import Derived.Test.YtllbfbllkefjeaaGreatDoorTextsW
namespace Go.Proofs.YtllbfbllkefjeaaGreatDoor
open Go.RowKit

/-- these five cells hold a name and its type -/
def NmAt (w : World) (n : Nat) (cs : List Value) (e : ByteArray × Ty) : Prop := ∃ cs', cs = .string e.1 :: cs' ∧ e.1.size ≤ maxLen ∧ TyAt w n cs' e.2
/-- the value is a slice of such -/
def EnvAt (w : World) (n : Nat) (v : Value) (es : List (ByteArray × Ty)) : Prop :=
  (es = [] ∧ ∃ a cap, v = .slice a 0 cap) ∨ ∃ b off cap, v = .slice (some ⟨b, off, none⟩) es.length cap ∧ ∀ j (h : j < es.length), ∃ cs, NmAt w n cs es[j] ∧ ∀ c u, cs[c]? = some u → w.cell? ⟨b, off + j * 5 + c, none⟩ = some u

theorem NmAt.below {w w' : World} {n : Nat} {cs : List Value} {e : ByteArray × Ty} (h : NmAt w n cs e) (hb : Below w.heap.size w w') : NmAt w' n cs e := by
  obtain ⟨cs', h1, h2, h3⟩ := h
  exact ⟨cs', h1, h2, h3.below hb⟩
theorem NmAt.len {w : World} {n : Nat} {cs : List Value} {e : ByteArray × Ty} (h : NmAt w n cs e) : cs.length = 5 := by
  obtain ⟨cs', rfl, _, h3⟩ := h
  rw [List.length_cons, h3.len]
theorem EnvAt.below {w w' : World} {n : Nat} {v : Value} {es : List (ByteArray × Ty)} (h : EnvAt w n v es) (hb : Below w.heap.size w w') : EnvAt w' n v es := by
  rcases h with h | ⟨b, off, cap, rfl, hc⟩
  · exact .inl h
  · refine .inr ⟨b, off, cap, rfl, fun j hj => ?_⟩
    obtain ⟨cs, h1, h2⟩ := hc j hj
    refine ⟨cs, h1.below hb, fun c u hu => ?_⟩
    have := h2 c u hu
    exact (hb.cell (p := ⟨b, off + j * 5 + c, none⟩) (World.block_lt_of_cell? w ⟨b, off + j * 5 + c, none⟩ this)).trans this

theorem envOpen {w : World} {n : Nat} {v : Value} {es : List (ByteArray × Ty)} (h : EnvAt w n v es) : ∃ av capv, v = .slice av es.length capv ∧ ∀ j (h : j < es.length), ∃ b off x0 x1 x2 x3, av = some ⟨b, off, none⟩ ∧ b < w.heap.size ∧ es[j].1.size ≤ maxLen ∧ TyAt w n [x0, x1, x2, x3] es[j].2 ∧ w.cell? ⟨b, off + j * 5, none⟩ = some (.string es[j].1) ∧ w.cell? ⟨b, off + j * 5 + 1, none⟩ = some x0 ∧ w.cell? ⟨b, off + j * 5 + 2, none⟩ = some x1 ∧ w.cell? ⟨b, off + j * 5 + 3, none⟩ = some x2 ∧ w.cell? ⟨b, off + j * 5 + 4, none⟩ = some x3 := by
  rcases h with ⟨h, a, cap, e⟩ | ⟨b, off, cap, e, hc⟩
  · exact ⟨a, cap, by rw [h]; exact e, fun j hj => by rw [h] at hj; simp at hj⟩
  · refine ⟨_, cap, e, fun j hj => ?_⟩
    obtain ⟨_, ⟨cs', rfl, hs, h1⟩, h2⟩ := hc j hj
    have hlen := h1.len
    match cs', hlen with
    | [x0, x1, x2, x3], _ => exact ⟨b, off, x0, x1, x2, x3, rfl, World.block_lt_of_cell? w ⟨b, off + j * 5 + 0, none⟩ (h2 0 _ rfl), hs, h1, h2 0 _ rfl, h2 1 x0 rfl, h2 2 x1 rfl, h2 3 x2 rfl, h2 4 x3 rfl⟩

/-- how much such a list holds -/
def nmBulk (n : Nat) (e : ByteArray × Ty) : Nat := e.1.size + Ty.bulk n e.2
def envBulk (n : Nat) (es : List (ByteArray × Ty)) : Nat := es.length + (es.map (nmBulk n)).sum
theorem envSum_more (n : Nat) (es : List (ByteArray × Ty)) (k : Nat) (h : k < es.length) : ((es.take (k + 1)).map (nmBulk n)).sum = ((es.take k).map (nmBulk n)).sum + nmBulk n es[k] := by
  rw [List.take_succ_eq_append_getElem h, List.map_append, List.sum_append]
  simp
theorem envSum_le (n : Nat) (es : List (ByteArray × Ty)) (k : Nat) : ((es.take k).map (nmBulk n)).sum ≤ (es.map (nmBulk n)).sum := by
  have : es.map (nmBulk n) = (es.take k).map (nmBulk n) ++ (es.drop k).map (nmBulk n) := by rw [← List.map_append, List.take_append_drop]
  rw [this, List.sum_append]
  omega
theorem env_bulk (n : Nat) (es : List (ByteArray × Ty)) (k : Nat) (h : k < es.length) : es[k].1.size + Ty.bulk n es[k].2 ≤ envBulk n es := by
  have h1 := envSum_more n es k h
  have h2 := envSum_le n es (k + 1)
  unfold nmBulk at h1
  unfold envBulk nmBulk
  unfold nmBulk at h2
  omega

end Go.Proofs.YtllbfbllkefjeaaGreatDoor

namespace Go.Proofs.YtllbfbllkefjeaaGreatDoor
open Go.RowKit

end Go.Proofs.YtllbfbllkefjeaaGreatDoor

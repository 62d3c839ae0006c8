/-
  The walks of impl.newMaker and impl.placeOf.
-/
import Derived.Test.YteocagdlbnhpgaaTyD
import Derived.Test.YteocagdlbnhpgaaPlaceM
namespace Go.Proofs.Yteocagdlbnhpgaa
open Go.RowKit

/-- a maker that was made just now: three empty maps, and itself behind these -/
def newMk (w : World) : World := (((w.alloc (.map #[] 0)).alloc (.map #[] 0)).alloc (.map #[] 0)).alloc (.cells #[.slice none 0 0, .map (some w.heap.size), .map (some (w.heap.size + 1)), .map (some (w.heap.size + 2))] 107)

theorem newMk_below (w : World) : Below w.heap.size w (newMk w) := ((((Below.refl _ _).alloc (Nat.le_refl _) _).alloc (by simp) _).alloc (by simp; omega) _).alloc (by simp; omega) _
theorem newMk_size (w : World) : (newMk w).heap.size = w.heap.size + 4 := by simp [newMk]

set_option maxHeartbeats 800000 in
set_option maxRecDepth 100000 in
theorem implNewMaker (w : World) : Calls Try.prog 44 #[] w fun e w' => e = .returned (.pointer (some ⟨w.heap.size + 3, 0, none⟩)) ∧ w' = newMk w := by
  have hmm := @run_makeMap Try.prog
  go_enter Try.func44, Try.ntmps44
  go_wp2_with fail
  go_ret
  exact ⟨rfl, rfl⟩

theorem ret_place {R : Ending → World → Prop} {W : World} {tmps : Array Value} {b : Nat} {x0 x1 : Value} (hp : tmps[2]?.getD undef = .pointer (some ⟨b, 0, none⟩))
    (h : W.cell? ⟨b, 0, none⟩ = some x0 ∧ W.cell? ⟨b, 1, none⟩ = some x1) (hR : R (.returned (.agg #[x0, x1])) W) :
    bodyPost Try.prog Try.f55 R .ret { tmps := tmps, defers := [] } W := by
  obtain ⟨h0, h1⟩ := h
  refine bodyPost_ret (v := .agg #[x0, x1]) ?_ rfl hR
  simp [results, Try.results55, go_sem, hp, h0, h1]

set_option maxHeartbeats 800000 in
set_option maxRecDepth 100000 in
theorem implPlaceOf (b off l cap : Nat) (w : World) (hl : 0 < l) : Calls Try.prog 55 #[.slice (some ⟨b, off, none⟩) l cap] w fun e w' => e = .returned (.agg #[.pointer (some ⟨b, off, none⟩), .int .i64 l]) ∧ Below w.heap.size w w' := by
  have hz : ((l : Int) == 0) = false := by rw [beq_eq_false_iff_ne]; omega
  have hR1 : (w.alloc (.cells #[.pointer none, .int .i64 0] 85)).heap[w.heap.size]? = some (.cells #[.pointer none, .int .i64 0] 85 (0, 0)) := (MapKept.heap_alloc w _).1
  have hf : ∀ j, (w.alloc (.cells #[.pointer none, .int .i64 0] 85)).frozen? ⟨w.heap.size, j, none⟩ = false := fun j => frozen_of_row _ _ j _ _ hR1
  clear hR1
  go_enter Try.func55, Try.ntmps55
  go_wp2_with fail
  exact ret_place rfl ⟨by rw [cellNew _ rfl]; rfl, by rw [cellNew _ rfl]; rfl⟩ ⟨rfl, (Below.refl _ _).alloc (Nat.le_refl _) _⟩

end Go.Proofs.Yteocagdlbnhpgaa

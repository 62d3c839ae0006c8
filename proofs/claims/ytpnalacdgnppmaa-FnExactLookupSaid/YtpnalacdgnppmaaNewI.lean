/-
  The walks of impl.newMaker and impl.placeOf.
-/
import Derived.Test.YtpnalacdgnppmaaTyD
import Derived.Test.YtpnalacdgnppmaaPlaceM
namespace Go.Proofs.Ytpnalacdgnppmaa
open Go.RowKit

theorem ret_place {R : Ending → World → Prop} {W : World} {tmps : Array Value} {b : Nat} {x0 x1 : Value} (hp : tmps[2]?.getD undef = .pointer (some ⟨b, 0, none⟩))
    (h : W.cell? ⟨b, 0, none⟩ = some x0 ∧ W.cell? ⟨b, 1, none⟩ = some x1) (hR : R (.returned (.agg #[x0, x1])) W) :
    bodyPost Try.prog Try.f45 R .ret { tmps := tmps, defers := [] } W := by
  obtain ⟨h0, h1⟩ := h
  refine bodyPost_ret (v := .agg #[x0, x1]) ?_ rfl hR
  simp [results, Try.results45, go_sem, hp, h0, h1]

set_option maxHeartbeats 800000 in
set_option maxRecDepth 100000 in
theorem implPlaceOf (b off l cap : Nat) (w : World) (hl : 0 < l) : Calls Try.prog 45 #[.slice (some ⟨b, off, none⟩) l cap] w fun e w' => e = .returned (.agg #[.pointer (some ⟨b, off, none⟩), .int .i64 l]) ∧ Below w.heap.size w w' := by
  have hz : ((l : Int) == 0) = false := by rw [beq_eq_false_iff_ne]; omega
  have hR1 : (w.alloc (.cells #[.pointer none, .int .i64 0] 81)).heap[w.heap.size]? = some (.cells #[.pointer none, .int .i64 0] 81 (0, 0)) := (MapKept.heap_alloc w _).1
  have hf : ∀ j, (w.alloc (.cells #[.pointer none, .int .i64 0] 81)).frozen? ⟨w.heap.size, j, none⟩ = false := fun j => frozen_of_row _ _ j _ _ hR1
  clear hR1
  go_enter Try.func45, Try.ntmps45
  go_wp2_with fail
  exact ret_place rfl ⟨by rw [cellNew _ rfl]; rfl, by rw [cellNew _ rfl]; rfl⟩ ⟨rfl, (Below.refl _ _).alloc (Nat.le_refl _) _⟩

end Go.Proofs.Ytpnalacdgnppmaa

/-
  Types and lists of types that are read, read deeper.
  The walks of the laws' own helpers szSummary, toSummary and eqSummary; a summary that is handed in, opened.
-/
import Derived.Test.YtllbfbllkefjeaaGreatDoorNmD
import Derived.Test.YtllbfbllkefjeaaGreatDoorToTy
import Derived.Test.YtllbfbllkefjeaaGreatDoorNmEq
import Derived.ChangeArms
import Derived.MapKept
import Derived.Sort.Walk0
namespace Go.Proofs.YtllbfbllkefjeaaGreatDoor
open Go.RowKit

theorem TyAt.deeper {w : World} {n : Nat} {cs : List Value} {t : Ty} (h : TyAt w n cs t) : TyAt w (n + 1) cs t := by
  induction n generalizing cs t with
  | zero => exact h.elim
  | succ n ih =>
    obtain ⟨vn, vk, h1, h2, h3, h4, h5, hr⟩ := h
    refine ⟨vn, vk, h1, h2, h3, h4, h5, ?_⟩
    rcases hr with hr | ⟨b, off, cap, e, hc⟩
    · exact .inl hr
    · exact .inr ⟨b, off, cap, e, fun j hj => by
        obtain ⟨cs, k1, k2⟩ := hc j hj
        exact ⟨cs, ih k1, k2⟩⟩
theorem EnvAt.deeper {w : World} {n : Nat} {v : Value} {es : List (ByteArray × Ty)} (h : EnvAt w n v es) : EnvAt w (n + 1) v es := by
  rcases h with h | ⟨b, off, cap, e, hc⟩
  · exact .inl h
  · exact .inr ⟨b, off, cap, e, fun j hj => by
      obtain ⟨cs, ⟨cs', k1, k2, k3⟩, k4⟩ := hc j hj
      exact ⟨cs, ⟨cs', k1, k2, k3.deeper⟩, k4⟩⟩
theorem EnvAt.deep {w : World} {n m : Nat} {v : Value} {es : List (ByteArray × Ty)} (h : EnvAt w n v es) (hm : n ≤ m) : EnvAt w m v es := by
  obtain ⟨k, rfl⟩ : ∃ k, m = n + k := ⟨m - n, by omega⟩
  clear hm
  induction k with
  | zero => exact h
  | succ k ih => exact ih.deeper

end Go.Proofs.YtllbfbllkefjeaaGreatDoor

namespace Go.Proofs.YtllbfbllkefjeaaGreatDoor
open Go.ChangeShapes Go.WideShapes Go.ChangeAt Go.RowKit

/-- how much a summary holds -/
def sumBulk (n : Nat) (nm : ByteArray) (ts xs : List (ByteArray × Ty)) : Nat := nm.size + envBulk n ts + envBulk n xs

theorem block4R {W : World} {b : Nat} {x0 x1 x2 x3 : Value} {t : TypeId} (h : W.heap[b]? = some (.cells #[x0, x1, x2, x3] t (0, 0))) : (W.cell? ⟨b, 0, none⟩ = some x0 ∧ W.cell? ⟨b, 1, none⟩ = some x1 ∧ W.cell? ⟨b, 2, none⟩ = some x2 ∧ W.cell? ⟨b, 3, none⟩ = some x3) ∧ ∀ j, W.frozen? ⟨b, j, none⟩ = false := by
  refine ⟨⟨?_, ?_, ?_, ?_⟩, fun j => frozen_of_row W b j _ _ h⟩
  · rw [cell_of_row W b 0 _ _ (0, 0) h]; rfl
  · rw [cell_of_row W b 1 _ _ (0, 0) h]; rfl
  · rw [cell_of_row W b 2 _ _ (0, 0) h]; rfl
  · rw [cell_of_row W b 3 _ _ (0, 0) h]; rfl

set_option maxHeartbeats 800000 in
set_option maxRecDepth 100000 in
theorem lawsEqSum (n : Nat) (nm : ByteArray) (bad : Bool) (vT vX uT uX : Value) (ts xs : List (ByteArray × Ty)) (w : World) (hT : EnvAt w n vT ts) (hX : EnvAt w n vX xs) (gT : EnvAt w n uT ts) (gX : EnvAt w n uX xs) (hbT : envBulk n ts ≤ 1048576) (hbX : envBulk n xs ≤ 1048576) :
    Calls Tryz.prog 90 #[.agg #[.string nm, .bool bad, vT, vX], .agg #[.string nm, .bool bad, uT, uX]] w fun e w' => e = .returned (.bool true) ∧ Below w.heap.size w w' := by
  obtain ⟨aT, cT, rfl, _⟩ := envOpen hT
  obtain ⟨aX, cX, rfl, _⟩ := envOpen hX
  obtain ⟨bT, dT, rfl, _⟩ := envOpen gT
  obtain ⟨bX, dX, rfl, _⟩ := envOpen gX
  have hB2 : Below w.heap.size w ((w.alloc (.cells #[.string nm, .bool bad, .slice aT ts.length cT, .slice aX xs.length cX] 109)).alloc (.cells #[.string nm, .bool bad, .slice bT ts.length dT, .slice bX xs.length dX] 109)) := ((Below.refl _ _).alloc (Nat.le_refl _) _).alloc (by simp) _
  have h1 : ((w.alloc (.cells #[.string nm, .bool bad, .slice aT ts.length cT, .slice aX xs.length cX] 109)).alloc (.cells #[.string nm, .bool bad, .slice bT ts.length dT, .slice bX xs.length dX] 109)).heap[w.heap.size]? = some (.cells #[.string nm, .bool bad, .slice aT ts.length cT, .slice aX xs.length cX] 109 (0, 0)) := ((MapKept.heap_alloc (w.alloc _) _).2 _ (by simp)).trans (MapKept.heap_alloc w _).1
  have h2 : ((w.alloc (.cells #[.string nm, .bool bad, .slice aT ts.length cT, .slice aX xs.length cX] 109)).alloc (.cells #[.string nm, .bool bad, .slice bT ts.length dT, .slice bX xs.length dX] 109)).heap[w.heap.size + 1]? = some (.cells #[.string nm, .bool bad, .slice bT ts.length dT, .slice bX xs.length dX] 109 (0, 0)) := by
    have := (MapKept.heap_alloc (w.alloc (.cells #[.string nm, .bool bad, .slice aT ts.length cT, .slice aX xs.length cX] 109)) (.cells #[.string nm, .bool bad, .slice bT ts.length dT, .slice bX xs.length dX] 109)).1
    simpa using this
  have HT : Hid (∀ wx, Below w.heap.size w wx → Calls Tryz.prog 107 #[.slice aT ts.length cT, .slice bT ts.length dT] wx fun e w' => e = .returned (.bool true) ∧ Below wx.heap.size wx w') := fun wx hx => lawsEqEnv n _ _ ts wx (hT.below hx) (gT.below hx) hbT
  have HX : Hid (∀ wx, Below w.heap.size w wx → Calls Tryz.prog 107 #[.slice aX xs.length cX, .slice bX xs.length dX] wx fun e w' => e = .returned (.bool true) ∧ Below wx.heap.size wx w') := fun wx hx => lawsEqEnv n _ _ xs wx (hX.below hx) (gX.below hx) hbX
  have hbb : (bad != bad) = false := by cases bad <;> rfl
  have hzz : w.heap.size + 1 < ((w.alloc (.cells #[.string nm, .bool bad, .slice aT ts.length cT, .slice aX xs.length cX] 109)).alloc (.cells #[.string nm, .bool bad, .slice bT ts.length dT, .slice bX xs.length dX] 109)).heap.size := by simp
  clear hT hX gT gX
  go_enter Tryz.func90, Tryz.ntmps90
  go_wp2_with fail
  refine (HT.out _ hB2).mono ?_
  rintro e w2 ⟨rfl, hb2⟩
  have hw2 := hB2.trans (hb2.mono hB2.size)
  obtain ⟨⟨_, _, _, q3⟩, _⟩ := block4R ((hb2.block _ (by omega)).trans h1)
  obtain ⟨⟨_, _, _, r3⟩, _⟩ := block4R ((hb2.block _ hzz).trans h2)
  clear h1 h2 hzz
  go_wp2_with fail
  refine (HX.out _ hw2).mono ?_
  rintro e w3 ⟨rfl, hb3⟩
  go_wp2_with fail
  go_ret
  exact ⟨rfl, hw2.trans (hb3.mono hw2.size)⟩

/-- four cells put into a box -/
theorem put4R {w0 : World} {b : Nat} {z0 z1 z2 z3 x0 x1 x2 x3 : Value} {t : TypeId} (h : w0.heap[b]? = some (.cells #[z0, z1, z2, z3] t (0, 0))) : ((((w0.setCell ⟨b, 0, none⟩ x0).setCell ⟨b, 1, none⟩ x1).setCell ⟨b, 2, none⟩ x2).setCell ⟨b, 3, none⟩ x3).heap[b]? = some (.cells #[x0, x1, x2, x3] t (0, 0)) :=
  heap_setCell_same _ b 3 _ _ x3 (heap_setCell_same _ b 2 _ _ x2 (heap_setCell_same _ b 1 _ _ x1 (heap_setCell_same w0 b 0 _ _ x0 h)))

end Go.Proofs.YtllbfbllkefjeaaGreatDoor

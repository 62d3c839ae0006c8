/-
  The walk of impl.copyStore.
-/
import Derived.Test.YtoebfpdalkpkdaaDoorItC
namespace Go.Proofs.YtoebfpdalkpkdaaDoor
open Go.RowKit

set_option maxHeartbeats 1600000 in
set_option maxRecDepth 100000 in
theorem implCopyStore (room : Int) (v : Value) (es : List Itm) (w : World) (hrow : ItAt w v es) (hb : itsBulk es ≤ 4194304) :
    Calls Tryd.prog 34 #[.agg #[.int .i64 room, v]] w fun e w' => ∃ a c, e = .returned (.agg #[.int .i64 room, .slice a es.length c]) ∧ w'.ownsRow w.heap.size 50 3 (.slice a es.length c) es.length (itV es) ∧ Below w.heap.size w w' := by
  obtain ⟨av, capv, rfl, _⟩ := itOpen hrow
  have hB2 : Below w.heap.size w ((w.alloc (.cells #[.int .i64 room, .slice av es.length capv] 29)).alloc (.cells #[.int .i64 0, .slice none 0 0] 29)) := ((Below.refl _ _).alloc (Nat.le_refl _) _).alloc (by simp) _
  have hzz : ((w.alloc (.cells #[.int .i64 room, .slice av es.length capv] 29)).alloc (.cells #[.int .i64 0, .slice none 0 0] 29)).heap.size = w.heap.size + 1 + 1 := by simp
  have a0 : ∀ i, ((w.alloc (.cells #[.int .i64 room, .slice av es.length capv] 29)).alloc (.cells #[.int .i64 0, .slice none 0 0] 29)).cell? ⟨w.heap.size, i, none⟩ = #[Value.int .i64 room, .slice av es.length capv][i]? := fun i => by rw [itOld _ (by simp), itNew _ rfl]
  have r0 : ((w.alloc (.cells #[.int .i64 room, .slice av es.length capv] 29)).alloc (.cells #[.int .i64 0, .slice none 0 0] 29)).heap[w.heap.size + 1]? = some (.cells #[.int .i64 0, .slice none 0 0] 29 (0, 0)) := by
    have := (MapKept.heap_alloc (w.alloc (.cells #[.int .i64 room, .slice av es.length capv] 29)) (.cells #[.int .i64 0, .slice none 0 0] 29)).1
    rwa [show (w.alloc (.cells #[.int .i64 room, .slice av es.length capv] 29)).heap.size = w.heap.size + 1 from by simp] at this
  have HROW : Hid (∀ wx : World, Below w.heap.size w wx → ItAt wx (.slice av es.length capv) es) := fun wx hx => hrow.below hx
  clear hrow
  go_enter Tryd.func34, Tryd.ntmps34
  go_wp2_with fail
  generalize ((w.alloc (.cells #[.int .i64 room, .slice av es.length capv] 29)).alloc (.cells #[.int .i64 0, .slice none 0 0] 29)) = W2 at *
  have hs1 : w.heap.size < W2.heap.size := by omega
  have hs2 : w.heap.size + 1 < W2.heap.size := by omega
  have HA : Hid (∀ X : World, Below W2.heap.size W2 X → (X.cell? ⟨w.heap.size, 0, none⟩ = some (.int .i64 room) ∧ X.cell? ⟨w.heap.size, 1, none⟩ = some (.slice av es.length capv)) ∧ X.heap[w.heap.size + 1]? = some (.cells #[.int .i64 0, .slice none 0 0] 29 (0, 0)) ∧ Below w.heap.size w X) := fun X hX => ⟨⟨(hX.cell (p := ⟨w.heap.size, 0, none⟩) hs1).trans (a0 0), (hX.cell (p := ⟨w.heap.size, 1, none⟩) hs1).trans (a0 1)⟩, (hX.block _ hs2).trans r0, hB2.trans (hX.mono (by omega))⟩
  have HNC : Hid (∀ wx : World, Below W2.heap.size W2 wx → wx.heap.size = W2.heap.size → Calls Tryd.prog 52 #[] wx fun e w' => e = .returned (.pointer (some ⟨W2.heap.size, 0, none⟩)) ∧ w'.heap[W2.heap.size]? = some (.cells #[.int .i64 8589934592, .bool false, .map none, .map none] 105 (0, 0)) ∧ Below W2.heap.size W2 w') := fun wx hx hz => by
    refine (implNewCopier wx).mono ?_
    rintro e w' ⟨rfl, rfl⟩
    refine ⟨by rw [hz], ?_, hx.alloc (by omega) _⟩
    rw [← hz]
    exact (MapKept.heap_alloc wx _).1
  have HCS : Hid (∀ wx : World, Below W2.heap.size W2 wx → wx.heap[W2.heap.size]? = some (.cells #[.int .i64 8589934592, .bool false, .map none, .map none] 105 (0, 0)) → Calls Tryd.prog 53 #[.pointer (some ⟨W2.heap.size, 0, none⟩), .agg #[.int .i64 room, .slice av es.length capv]] wx fun e w' => ∃ (a : Option Addr) (c : Nat), e = .returned (.agg #[.int .i64 room, .slice a es.length c]) ∧ w'.ownsRow W2.heap.size 50 3 (.slice a es.length c) es.length (itV es) ∧ Below W2.heap.size W2 w') := fun wx hx hcp => by
    have hlt := (Array.getElem?_eq_some_iff.1 hcp).1
    refine (implCStore W2.heap.size 8589934592 room _ _ _ _ es wx (HROW.out wx (HA.out wx hx).2.2) hb hcp (by omega) (by omega)).mono ?_
    rintro e w' ⟨a, c, S, rfl, h1, _, h3⟩
    refine ⟨a, c, rfl, itLow h1 (by omega) (fun _ _ => rfl), ?_⟩
    exact (hx.setCell (Nat.le_refl _) _).trans (h3.mono hx.size)
  obtain ⟨hA0, _, _⟩ := HA.out W2 (Below.refl _ _)
  clear a0 r0 hB2 HROW hb hzz
  obtain ⟨e0, e1⟩ := hA0
  have HN1 : Hid (type_of% (HNC.out W2 (Below.refl _ _) rfl)) := HNC.out W2 (Below.refl _ _) rfl
  have HN2 : Hid (type_of% (HNC.out W2.drew (Below.refl _ _).drew rfl)) := HNC.out W2.drew (Below.refl _ _).drew rfl
  clear HNC
  go_region_with (first
      | (go_at_call 52; (first | (with_reducible refine HN2.out.mono ?_) | (with_reducible refine HN1.out.mono ?_)); rintro e w3 ⟨rfl, hcp3, hb3⟩; obtain ⟨⟨k0, k1⟩, _, _⟩ := HA.out w3 hb3)
      | (go_at_call 53; refine (HCS.out _ hb3 hcp3).mono ?_; rintro e w4 ⟨a, c, rfl, ho4, hb4⟩; obtain ⟨_, hr4, hw4⟩ := HA.out w4 hb4; have d0 : w4.cell? ⟨w.heap.size + 1, 0, none⟩ = some (.int .i64 0) := (by rw [cell_of_row _ _ 0 _ _ (0, 0) hr4]; rfl); have d1 : w4.cell? ⟨w.heap.size + 1, 1, none⟩ = some (.slice none 0 0) := (by rw [cell_of_row _ _ 1 _ _ (0, 0) hr4]; rfl); have f0 := frozen_of_row w4 (w.heap.size + 1) 0 _ _ hr4; have f1 := frozen_of_row w4 (w.heap.size + 1) 1 _ _ hr4))
  all_goals
    have HO4 : Hid (type_of% ho4) := ho4
    clear hr4 ho4
    go_wp2_with fail
    refine ret_copyS (b := w.heap.size + 1) (x0 := .int .i64 room) (x1 := .slice a es.length c) rfl ⟨?_, ?_⟩ ⟨a, c, rfl, ?_, ?_⟩
    · rw [World.cell?_setCell_other _ _ _ _ (by simp), World.cell?_setCell_same _ _ _ d0]
    · rw [World.cell?_setCell_same _ _ _ (by rw [World.cell?_setCell_other _ _ _ _ (by simp)]; exact d1)]
    · refine itLow HO4.out (by omega) fun gg hgg => ?_
      have h1 := HO4.out.lt gg hgg
      rw [Below.heap_setCell _ _ _ _ (by simp; omega), Below.heap_setCell _ _ _ _ (by simp; omega)]
    · exact (hw4.setCell (by simp) _).setCell (by simp) _

end Go.Proofs.YtoebfpdalkpkdaaDoor

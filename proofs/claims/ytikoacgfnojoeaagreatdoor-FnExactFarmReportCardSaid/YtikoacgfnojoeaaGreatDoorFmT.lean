/-
  The walk of the laws' own helper toFarm: a copy in new memory.
-/
import Derived.Test.YtikoacgfnojoeaaGreatDoorFmW
import Derived.Test.YtikoacgfnojoeaaGreatDoorItT
namespace Go.Proofs.YtikoacgfnojoeaaGreatDoor
open Go.RowKit

/-- what holds in every world that has these blocks as they are -/
def Keeps (B : Nat) (X : World) (P : World → Prop) : Prop := ∀ F, Above B X F → P F
theorem Keeps.step {B : Nat} {X Y : World} {P : World → Prop} (h : Keeps B X P) (ha : Above B X Y) : Keeps B Y P := fun F hF => h F (ha.trans hF)

/-- the state of the walk: the argument's box, the answer's, the one that is filled -/
structure ToF (w X : World) (A row : Array Value) : Prop where
  bel : Below w.heap.size w X
  arg : X.heap[w.heap.size]? = some (.cells A 31 (0, 0))
  res : X.heap[w.heap.size + 1]? = some (.cells #[.slice none 0 0, .int .i64 0, .slice none 0 0, .int .i64 0, .int .i64 0, .slice none 0 0, .slice none 0 0, .slice none 0 0, .int .i64 0, .slice none 0 0] 43 (0, 0))
  out : X.heap[w.heap.size + 1 + 1]? = some (.cells row 43 (0, 0))
theorem ToF.size {w X : World} {A row : Array Value} (h : ToF w X A row) : w.heap.size + 1 + 1 < X.heap.size := (Array.getElem?_eq_some_iff.1 h.out).1
theorem ToF.call {w X Y : World} {A row : Array Value} (h : ToF w X A row) (hb : Below X.heap.size X Y) : ToF w Y A row := by
  have := h.size
  exact ⟨h.bel.trans (hb.mono h.bel.size), (hb.block _ (by omega)).trans h.arg, (hb.block _ (by omega)).trans h.res, (hb.block _ (by omega)).trans h.out⟩
theorem ToF.set {w X : World} {A row row' : Array Value} (h : ToF w X A row) (i : Nat) (u : Value) (hr : (X.setCell ⟨w.heap.size + 1 + 1, i, none⟩ u).heap[w.heap.size + 1 + 1]? = some (.cells row' 43 (0, 0))) : ToF w (X.setCell ⟨w.heap.size + 1 + 1, i, none⟩ u) A row' :=
  ⟨h.bel.setCell (by simp; omega) _, (Below.heap_setCell _ _ _ _ (by simp; omega)).trans h.arg, (Below.heap_setCell _ _ _ _ (by simp)).trans h.res, hr⟩

def put10 (X : World) (b : Nat) (x0 x1 x2 x3 x4 x5 x6 x7 x8 x9 : Value) : World := ((((((((((X.setCell ⟨b, 0, none⟩ x0).setCell ⟨b, 1, none⟩ x1).setCell ⟨b, 2, none⟩ x2).setCell ⟨b, 3, none⟩ x3).setCell ⟨b, 4, none⟩ x4).setCell ⟨b, 5, none⟩ x5).setCell ⟨b, 6, none⟩ x6).setCell ⟨b, 7, none⟩ x7).setCell ⟨b, 8, none⟩ x8).setCell ⟨b, 9, none⟩ x9)
theorem put10_above (X : World) (b B : Nat) (x0 x1 x2 x3 x4 x5 x6 x7 x8 x9 : Value) (h : b < B) : Above B X (put10 X b x0 x1 x2 x3 x4 x5 x6 x7 x8 x9) := ((((((((((Above.set _ _ _ h).trans (Above.set _ _ _ h)).trans (Above.set _ _ _ h)).trans (Above.set _ _ _ h)).trans (Above.set _ _ _ h)).trans (Above.set _ _ _ h)).trans (Above.set _ _ _ h)).trans (Above.set _ _ _ h)).trans (Above.set _ _ _ h)).trans (Above.set _ _ _ h))
theorem put10_below (X w : World) (b : Nat) (x0 x1 x2 x3 x4 x5 x6 x7 x8 x9 : Value) (h : Below w.heap.size w X) (hb : w.heap.size ≤ b) : Below w.heap.size w (put10 X b x0 x1 x2 x3 x4 x5 x6 x7 x8 x9) := ((((((((((h.setCell (p := ⟨b, 0, none⟩) hb _).setCell (p := ⟨b, 1, none⟩) hb _).setCell (p := ⟨b, 2, none⟩) hb _).setCell (p := ⟨b, 3, none⟩) hb _).setCell (p := ⟨b, 4, none⟩) hb _).setCell (p := ⟨b, 5, none⟩) hb _).setCell (p := ⟨b, 6, none⟩) hb _).setCell (p := ⟨b, 7, none⟩) hb _).setCell (p := ⟨b, 8, none⟩) hb _).setCell (p := ⟨b, 9, none⟩) hb _)
theorem put10R {X : World} {b : Nat} {z0 z1 z2 z3 z4 z5 z6 z7 z8 z9 x0 x1 x2 x3 x4 x5 x6 x7 x8 x9 : Value} {t : TypeId} (h : X.heap[b]? = some (.cells #[z0, z1, z2, z3, z4, z5, z6, z7, z8, z9] t (0, 0))) : (put10 X b x0 x1 x2 x3 x4 x5 x6 x7 x8 x9).heap[b]? = some (.cells #[x0, x1, x2, x3, x4, x5, x6, x7, x8, x9] t (0, 0)) := by
  have h0 : (X.setCell ⟨b, 0, none⟩ x0).heap[b]? = some (.cells #[x0, z1, z2, z3, z4, z5, z6, z7, z8, z9] t (0, 0)) := heap_setCell_same _ _ 0 _ _ _ h
  have h1 : ((X.setCell ⟨b, 0, none⟩ x0).setCell ⟨b, 1, none⟩ x1).heap[b]? = some (.cells #[x0, x1, z2, z3, z4, z5, z6, z7, z8, z9] t (0, 0)) := heap_setCell_same _ _ 1 _ _ _ h0
  have h2 : (((X.setCell ⟨b, 0, none⟩ x0).setCell ⟨b, 1, none⟩ x1).setCell ⟨b, 2, none⟩ x2).heap[b]? = some (.cells #[x0, x1, x2, z3, z4, z5, z6, z7, z8, z9] t (0, 0)) := heap_setCell_same _ _ 2 _ _ _ h1
  have h3 : ((((X.setCell ⟨b, 0, none⟩ x0).setCell ⟨b, 1, none⟩ x1).setCell ⟨b, 2, none⟩ x2).setCell ⟨b, 3, none⟩ x3).heap[b]? = some (.cells #[x0, x1, x2, x3, z4, z5, z6, z7, z8, z9] t (0, 0)) := heap_setCell_same _ _ 3 _ _ _ h2
  have h4 : (((((X.setCell ⟨b, 0, none⟩ x0).setCell ⟨b, 1, none⟩ x1).setCell ⟨b, 2, none⟩ x2).setCell ⟨b, 3, none⟩ x3).setCell ⟨b, 4, none⟩ x4).heap[b]? = some (.cells #[x0, x1, x2, x3, x4, z5, z6, z7, z8, z9] t (0, 0)) := heap_setCell_same _ _ 4 _ _ _ h3
  have h5 : ((((((X.setCell ⟨b, 0, none⟩ x0).setCell ⟨b, 1, none⟩ x1).setCell ⟨b, 2, none⟩ x2).setCell ⟨b, 3, none⟩ x3).setCell ⟨b, 4, none⟩ x4).setCell ⟨b, 5, none⟩ x5).heap[b]? = some (.cells #[x0, x1, x2, x3, x4, x5, z6, z7, z8, z9] t (0, 0)) := heap_setCell_same _ _ 5 _ _ _ h4
  have h6 : (((((((X.setCell ⟨b, 0, none⟩ x0).setCell ⟨b, 1, none⟩ x1).setCell ⟨b, 2, none⟩ x2).setCell ⟨b, 3, none⟩ x3).setCell ⟨b, 4, none⟩ x4).setCell ⟨b, 5, none⟩ x5).setCell ⟨b, 6, none⟩ x6).heap[b]? = some (.cells #[x0, x1, x2, x3, x4, x5, x6, z7, z8, z9] t (0, 0)) := heap_setCell_same _ _ 6 _ _ _ h5
  have h7 : ((((((((X.setCell ⟨b, 0, none⟩ x0).setCell ⟨b, 1, none⟩ x1).setCell ⟨b, 2, none⟩ x2).setCell ⟨b, 3, none⟩ x3).setCell ⟨b, 4, none⟩ x4).setCell ⟨b, 5, none⟩ x5).setCell ⟨b, 6, none⟩ x6).setCell ⟨b, 7, none⟩ x7).heap[b]? = some (.cells #[x0, x1, x2, x3, x4, x5, x6, x7, z8, z9] t (0, 0)) := heap_setCell_same _ _ 7 _ _ _ h6
  have h8 : (((((((((X.setCell ⟨b, 0, none⟩ x0).setCell ⟨b, 1, none⟩ x1).setCell ⟨b, 2, none⟩ x2).setCell ⟨b, 3, none⟩ x3).setCell ⟨b, 4, none⟩ x4).setCell ⟨b, 5, none⟩ x5).setCell ⟨b, 6, none⟩ x6).setCell ⟨b, 7, none⟩ x7).setCell ⟨b, 8, none⟩ x8).heap[b]? = some (.cells #[x0, x1, x2, x3, x4, x5, x6, x7, x8, z9] t (0, 0)) := heap_setCell_same _ _ 8 _ _ _ h7
  have h9 : ((((((((((X.setCell ⟨b, 0, none⟩ x0).setCell ⟨b, 1, none⟩ x1).setCell ⟨b, 2, none⟩ x2).setCell ⟨b, 3, none⟩ x3).setCell ⟨b, 4, none⟩ x4).setCell ⟨b, 5, none⟩ x5).setCell ⟨b, 6, none⟩ x6).setCell ⟨b, 7, none⟩ x7).setCell ⟨b, 8, none⟩ x8).setCell ⟨b, 9, none⟩ x9).heap[b]? = some (.cells #[x0, x1, x2, x3, x4, x5, x6, x7, x8, x9] t (0, 0)) := heap_setCell_same _ _ 9 _ _ _ h8
  exact h9

theorem ret_farm {R : Ending → World → Prop} {W : World} {tmps : Array Value} {b : Nat} {t : TypeId} {x0 x1 x2 x3 x4 x5 x6 x7 x8 x9 : Value} (hp : tmps[2]?.getD undef = .pointer (some ⟨b, 0, none⟩))
    (h : W.heap[b]? = some (.cells #[x0, x1, x2, x3, x4, x5, x6, x7, x8, x9] t (0, 0))) (hR : R (.returned (.agg #[x0, x1, x2, x3, x4, x5, x6, x7, x8, x9])) W) :
    bodyPost Tryz.prog Tryz.f6 R .ret { tmps := tmps, defers := [] } W := by
  have h0 : W.cell? ⟨b, 0, none⟩ = some x0 := by rw [cell_of_row W b 0 _ _ (0, 0) h]; rfl
  have h1 : W.cell? ⟨b, 1, none⟩ = some x1 := by rw [cell_of_row W b 1 _ _ (0, 0) h]; rfl
  have h2 : W.cell? ⟨b, 2, none⟩ = some x2 := by rw [cell_of_row W b 2 _ _ (0, 0) h]; rfl
  have h3 : W.cell? ⟨b, 3, none⟩ = some x3 := by rw [cell_of_row W b 3 _ _ (0, 0) h]; rfl
  have h4 : W.cell? ⟨b, 4, none⟩ = some x4 := by rw [cell_of_row W b 4 _ _ (0, 0) h]; rfl
  have h5 : W.cell? ⟨b, 5, none⟩ = some x5 := by rw [cell_of_row W b 5 _ _ (0, 0) h]; rfl
  have h6 : W.cell? ⟨b, 6, none⟩ = some x6 := by rw [cell_of_row W b 6 _ _ (0, 0) h]; rfl
  have h7 : W.cell? ⟨b, 7, none⟩ = some x7 := by rw [cell_of_row W b 7 _ _ (0, 0) h]; rfl
  have h8 : W.cell? ⟨b, 8, none⟩ = some x8 := by rw [cell_of_row W b 8 _ _ (0, 0) h]; rfl
  have h9 : W.cell? ⟨b, 9, none⟩ = some x9 := by rw [cell_of_row W b 9 _ _ (0, 0) h]; rfl
  refine bodyPost_ret (v := .agg #[x0, x1, x2, x3, x4, x5, x6, x7, x8, x9]) ?_ rfl hR
  simp [results, Tryz.results6, go_sem, hp, h0, h1, h2, h3, h4, h5, h6, h7, h8, h9]

set_option maxHeartbeats 3200000 in
set_option maxRecDepth 100000 in
theorem lawsToFarm (n : Nat) (e : FarmV) (w : World) (h : e.at w n) (hbk : farmB n e ≤ 1048576) :
    Calls Tryz.prog 6 #[.agg e.cells.toArray] w fun r w' => ∃ e2 : FarmV, r = .returned (.agg e2.cells.toArray) ∧ e.same e2 ∧ e2.at w' n ∧ Below w.heap.size w w' := by
  obtain ⟨p1, p2, p3, p4, p5, p6, hrs, _, _⟩ := farm_parts hbk
  obtain ⟨vS, set, wait, vU, up, clock, epoch, vL, leases, vR, done, vN, net, room, vI, items⟩ := e
  simp only at p1 p2 p3 p4 p5 p6 hrs
  obtain ⟨hS, hU, hL, hR, hN, hI⟩ := h
  simp only at hS hU hL hR hN hI
  obtain ⟨aS, cS, rfl, _⟩ := srcOpen hS
  obtain ⟨aU, cU, rfl, _⟩ := rowA_open hU
  obtain ⟨aL, cL, rfl, _⟩ := rowA_open hL
  obtain ⟨aR, cR, rfl, _⟩ := rowA_open hR.1
  obtain ⟨aN, cN, rfl, _⟩ := rowA_open hN
  obtain ⟨aI, cI, rfl, _⟩ := itOpen hI
  show Calls Tryz.prog 6 #[.agg #[.slice aS set.length cS, .int .i64 wait, .slice aU up.length cU, .int .i64 clock, .int .i64 epoch, .slice aL leases.length cL, .slice aR done.length cR, .slice aN net.length cN, .int .i64 room, .slice aI items.length cI]] w _
  have hT0 : ToF w (((w.alloc (.cells #[.slice aS set.length cS, .int .i64 wait, .slice aU up.length cU, .int .i64 clock, .int .i64 epoch, .slice aL leases.length cL, .slice aR done.length cR, .slice aN net.length cN, .int .i64 room, .slice aI items.length cI] 31)).alloc (.cells #[.slice none 0 0, .int .i64 0, .slice none 0 0, .int .i64 0, .int .i64 0, .slice none 0 0, .slice none 0 0, .slice none 0 0, .int .i64 0, .slice none 0 0] 43)).alloc (.cells #[.slice none 0 0, .int .i64 0, .slice none 0 0, .int .i64 0, .int .i64 0, .slice none 0 0, .slice none 0 0, .slice none 0 0, .int .i64 0, .slice none 0 0] 43)) #[.slice aS set.length cS, .int .i64 wait, .slice aU up.length cU, .int .i64 clock, .int .i64 epoch, .slice aL leases.length cL, .slice aR done.length cR, .slice aN net.length cN, .int .i64 room, .slice aI items.length cI] #[.slice none 0 0, .int .i64 0, .slice none 0 0, .int .i64 0, .int .i64 0, .slice none 0 0, .slice none 0 0, .slice none 0 0, .int .i64 0, .slice none 0 0] := by
    refine ⟨(((Below.refl _ _).alloc (Nat.le_refl _) _).alloc (by simp) _).alloc (by simp; omega) _, ?_, ?_, ?_⟩
    · rw [Below.heap_alloc _ _ _ (by simp; omega), Below.heap_alloc _ _ _ (by simp)]
      exact (MapKept.heap_alloc w _).1
    · rw [Below.heap_alloc _ _ _ (by simp)]
      have := (MapKept.heap_alloc (w.alloc (.cells #[.slice aS set.length cS, .int .i64 wait, .slice aU up.length cU, .int .i64 clock, .int .i64 epoch, .slice aL leases.length cL, .slice aR done.length cR, .slice aN net.length cN, .int .i64 room, .slice aI items.length cI] 31)) (.cells #[.slice none 0 0, .int .i64 0, .slice none 0 0, .int .i64 0, .int .i64 0, .slice none 0 0, .slice none 0 0, .slice none 0 0, .int .i64 0, .slice none 0 0] 43)).1
      simpa using this
    · have := (MapKept.heap_alloc ((w.alloc (.cells #[.slice aS set.length cS, .int .i64 wait, .slice aU up.length cU, .int .i64 clock, .int .i64 epoch, .slice aL leases.length cL, .slice aR done.length cR, .slice aN net.length cN, .int .i64 room, .slice aI items.length cI] 31)).alloc (.cells #[.slice none 0 0, .int .i64 0, .slice none 0 0, .int .i64 0, .int .i64 0, .slice none 0 0, .slice none 0 0, .slice none 0 0, .int .i64 0, .slice none 0 0] 43)) (.cells #[.slice none 0 0, .int .i64 0, .slice none 0 0, .int .i64 0, .int .i64 0, .slice none 0 0, .slice none 0 0, .slice none 0 0, .int .i64 0, .slice none 0 0] 43)).1
      simpa using this
  have HS : Hid (∀ wx, Below w.heap.size w wx → Calls Tryz.prog 17 #[.slice aS set.length cS] wx fun e w' => e = .returned (.slice (some ⟨wx.heap.size, 0, none⟩) set.length set.length) ∧ SrcAt w' (.slice (some ⟨wx.heap.size, 0, none⟩) set.length set.length) set ∧ Below wx.heap.size wx w') := fun wx hx => lawsToSrs _ set wx (hS.below hx) p1
  have HU : Hid (∀ wx, Below w.heap.size w wx → Calls Tryz.prog 18 #[.slice aU up.length cU] wx fun e w' => e = .returned (.slice (some ⟨wx.heap.size, 0, none⟩) up.length up.length) ∧ RowA 1 BoF w' (.slice (some ⟨wx.heap.size, 0, none⟩) up.length up.length) up ∧ Below wx.heap.size wx w') := fun wx hx => lawsToBos _ up wx (hU.below hx) p2
  have HL : Hid (∀ wx, Below w.heap.size w wx → Calls Tryz.prog 19 #[.slice aL leases.length cL] wx fun e w' => e = .returned (.slice (some ⟨wx.heap.size, 0, none⟩) leases.length leases.length) ∧ RowA 3 LeF w' (.slice (some ⟨wx.heap.size, 0, none⟩) leases.length leases.length) leases ∧ Below wx.heap.size wx w') := fun wx hx => lawsToLes _ leases wx (hL.below hx) p3
  have HR : Hid (∀ wx, Below w.heap.size w wx → Calls Tryz.prog 20 #[.slice aR done.length cR] wx fun e w' => e = .returned (.slice (some ⟨wx.heap.size, 0, none⟩) done.length done.length) ∧ (∃ done2, SameRs done done2 ∧ ∀ w3, Above wx.heap.size w' w3 → ResAt w3 n (.slice (some ⟨wx.heap.size, 0, none⟩) done.length done.length) done2) ∧ Below wx.heap.size wx w') := fun wx hx => lawsToRess n _ done wx (hR.below hx) p4 hrs
  have HN : Hid (∀ wx, Below w.heap.size w wx → Calls Tryz.prog 21 #[.slice aN net.length cN] wx fun e w' => e = .returned (.slice (some ⟨wx.heap.size, 0, none⟩) net.length net.length) ∧ RowA 3 PaF w' (.slice (some ⟨wx.heap.size, 0, none⟩) net.length net.length) net ∧ Below wx.heap.size wx w') := fun wx hx => lawsToPas _ net wx (hN.below hx) p5
  have HI : Hid (∀ wx, Below w.heap.size w wx → Calls Tryz.prog 22 #[.agg #[.int .i64 room, .slice aI items.length cI]] wx fun e w' => ∃ g, e = .returned (.agg #[.int .i64 room, .slice (some ⟨g, 0, none⟩) items.length items.length]) ∧ wx.heap.size ≤ g ∧ ItAt w' (.slice (some ⟨g, 0, none⟩) items.length items.length) items ∧ Below wx.heap.size wx w') := fun wx hx => (lawsToStore room _ items wx (hI.below hx) p6).mono fun e w' ⟨g, e1, e2, e3⟩ => ⟨g, e1, (e2.lt g rfl).1, itRow e2, e3⟩
  clear hS hU hL hR hN hI hrs hbk
  go_enter Tryz.func6, Tryz.ntmps6
  go_wp2_with fail
  generalize (((w.alloc (.cells #[.slice aS set.length cS, .int .i64 wait, .slice aU up.length cU, .int .i64 clock, .int .i64 epoch, .slice aL leases.length cL, .slice aR done.length cR, .slice aN net.length cN, .int .i64 room, .slice aI items.length cI] 31)).alloc (.cells #[.slice none 0 0, .int .i64 0, .slice none 0 0, .int .i64 0, .int .i64 0, .slice none 0 0, .slice none 0 0, .slice none 0 0, .int .i64 0, .slice none 0 0] 43)).alloc (.cells #[.slice none 0 0, .int .i64 0, .slice none 0 0, .int .i64 0, .int .i64 0, .slice none 0 0, .slice none 0 0, .slice none 0 0, .int .i64 0, .slice none 0 0] 43)) = X0 at *
  refine (HS.out _ hT0.bel).mono ?_
  rintro e Y0 ⟨rfl, hkS, hb0⟩
  obtain ⟨gS, hgS⟩ : ∃ gS, gS = X0.heap.size := ⟨_, rfl⟩
  have hgBS : (w.heap.size + 1 + 1 + 1) ≤ gS := by have := hT0.size; omega
  rw [← hgS] at hkS ⊢
  have KS : Keeps (w.heap.size + 1 + 1 + 1) Y0 fun F => SrcAt F (.slice (some ⟨gS, 0, none⟩) set.length set.length) set := fun F hF => srcAbove hkS hF hgBS
  have hU0 := hT0.call hb0
  have st0 : Y0.cell? ⟨w.heap.size + 1 + 1, 0, none⟩ = some (.slice none 0 0) := by rw [cell_of_row _ _ 0 _ _ (0, 0) hU0.out]; rfl
  have sf0 : Y0.frozen? ⟨w.heap.size + 1 + 1, 0, none⟩ = false := frozen_of_row _ _ 0 _ _ hU0.out
  have hV0 : ToF w (Y0.setCell ⟨w.heap.size + 1 + 1, 0, none⟩ (.slice (some ⟨gS, 0, none⟩) set.length set.length)) #[.slice aS set.length cS, .int .i64 wait, .slice aU up.length cU, .int .i64 clock, .int .i64 epoch, .slice aL leases.length cL, .slice aR done.length cR, .slice aN net.length cN, .int .i64 room, .slice aI items.length cI] #[.slice (some ⟨gS, 0, none⟩) set.length set.length, .int .i64 0, .slice none 0 0, .int .i64 0, .int .i64 0, .slice none 0 0, .slice none 0 0, .slice none 0 0, .int .i64 0, .slice none 0 0] := hU0.set 0 _ (heap_setCell_same _ _ 0 _ _ _ hU0.out)
  have KSz0 := KS.step (Above.set (B := (w.heap.size + 1 + 1 + 1)) Y0 ⟨w.heap.size + 1 + 1, 0, none⟩ (.slice (some ⟨gS, 0, none⟩) set.length set.length) (by show w.heap.size + 1 + 1 < _; omega))
  have ld1 : (Y0.setCell ⟨w.heap.size + 1 + 1, 0, none⟩ (.slice (some ⟨gS, 0, none⟩) set.length set.length)).cell? ⟨w.heap.size, 1, none⟩ = some (.int .i64 wait) := by rw [cell_of_row _ _ 1 _ _ (0, 0) hV0.arg]; rfl
  have st1 : (Y0.setCell ⟨w.heap.size + 1 + 1, 0, none⟩ (.slice (some ⟨gS, 0, none⟩) set.length set.length)).cell? ⟨w.heap.size + 1 + 1, 1, none⟩ = some (.int .i64 0) := by rw [cell_of_row _ _ 1 _ _ (0, 0) hV0.out]; rfl
  have sf1 : (Y0.setCell ⟨w.heap.size + 1 + 1, 0, none⟩ (.slice (some ⟨gS, 0, none⟩) set.length set.length)).frozen? ⟨w.heap.size + 1 + 1, 1, none⟩ = false := frozen_of_row _ _ 1 _ _ hV0.out
  have hV1 : ToF w ((Y0.setCell ⟨w.heap.size + 1 + 1, 0, none⟩ (.slice (some ⟨gS, 0, none⟩) set.length set.length)).setCell ⟨w.heap.size + 1 + 1, 1, none⟩ (.int .i64 wait)) #[.slice aS set.length cS, .int .i64 wait, .slice aU up.length cU, .int .i64 clock, .int .i64 epoch, .slice aL leases.length cL, .slice aR done.length cR, .slice aN net.length cN, .int .i64 room, .slice aI items.length cI] #[.slice (some ⟨gS, 0, none⟩) set.length set.length, .int .i64 wait, .slice none 0 0, .int .i64 0, .int .i64 0, .slice none 0 0, .slice none 0 0, .slice none 0 0, .int .i64 0, .slice none 0 0] := hV0.set 1 _ (heap_setCell_same _ _ 1 _ _ _ hV0.out)
  have KSz1 := KSz0.step (Above.set (B := (w.heap.size + 1 + 1 + 1)) (Y0.setCell ⟨w.heap.size + 1 + 1, 0, none⟩ (.slice (some ⟨gS, 0, none⟩) set.length set.length)) ⟨w.heap.size + 1 + 1, 1, none⟩ (.int .i64 wait) (by show w.heap.size + 1 + 1 < _; omega))
  have ld2 : ((Y0.setCell ⟨w.heap.size + 1 + 1, 0, none⟩ (.slice (some ⟨gS, 0, none⟩) set.length set.length)).setCell ⟨w.heap.size + 1 + 1, 1, none⟩ (.int .i64 wait)).cell? ⟨w.heap.size, 2, none⟩ = some (.slice aU up.length cU) := by rw [cell_of_row _ _ 2 _ _ (0, 0) hV1.arg]; rfl
  have LS : Hid (type_of% KSz1) := KSz1
  clear KS KSz0 KSz1 HS
  clear hkS hb0 hgBS hT0 hgS hU0 hV0
  go_wp2_with fail
  clear st0 sf0 ld1 st1 sf1 ld2
  generalize ((Y0.setCell ⟨w.heap.size + 1 + 1, 0, none⟩ (.slice (some ⟨gS, 0, none⟩) set.length set.length)).setCell ⟨w.heap.size + 1 + 1, 1, none⟩ (.int .i64 wait)) = X1 at *
  have KS := LS.out
  clear LS
  refine (HU.out _ hV1.bel).mono ?_
  rintro e Y1 ⟨rfl, hkU, hb1⟩
  obtain ⟨gU, hgU⟩ : ∃ gU, gU = X1.heap.size := ⟨_, rfl⟩
  have hgBU : (w.heap.size + 1 + 1 + 1) ≤ gU := by have := hV1.size; omega
  rw [← hgU] at hkU ⊢
  have KU : Keeps (w.heap.size + 1 + 1 + 1) Y1 fun F => RowA 1 BoF F (.slice (some ⟨gU, 0, none⟩) up.length up.length) up := fun F hF => rowAbove hkU hF hgBU
  have KSy := KS.step (Above.of_below (B := (w.heap.size + 1 + 1 + 1)) hb1)
  have hU1 := hV1.call hb1
  have st2 : Y1.cell? ⟨w.heap.size + 1 + 1, 2, none⟩ = some (.slice none 0 0) := by rw [cell_of_row _ _ 2 _ _ (0, 0) hU1.out]; rfl
  have sf2 : Y1.frozen? ⟨w.heap.size + 1 + 1, 2, none⟩ = false := frozen_of_row _ _ 2 _ _ hU1.out
  have hV2 : ToF w (Y1.setCell ⟨w.heap.size + 1 + 1, 2, none⟩ (.slice (some ⟨gU, 0, none⟩) up.length up.length)) #[.slice aS set.length cS, .int .i64 wait, .slice aU up.length cU, .int .i64 clock, .int .i64 epoch, .slice aL leases.length cL, .slice aR done.length cR, .slice aN net.length cN, .int .i64 room, .slice aI items.length cI] #[.slice (some ⟨gS, 0, none⟩) set.length set.length, .int .i64 wait, .slice (some ⟨gU, 0, none⟩) up.length up.length, .int .i64 0, .int .i64 0, .slice none 0 0, .slice none 0 0, .slice none 0 0, .int .i64 0, .slice none 0 0] := hU1.set 2 _ (heap_setCell_same _ _ 2 _ _ _ hU1.out)
  have KSz0 := KSy.step (Above.set (B := (w.heap.size + 1 + 1 + 1)) Y1 ⟨w.heap.size + 1 + 1, 2, none⟩ (.slice (some ⟨gU, 0, none⟩) up.length up.length) (by show w.heap.size + 1 + 1 < _; omega))
  have KUz0 := KU.step (Above.set (B := (w.heap.size + 1 + 1 + 1)) Y1 ⟨w.heap.size + 1 + 1, 2, none⟩ (.slice (some ⟨gU, 0, none⟩) up.length up.length) (by show w.heap.size + 1 + 1 < _; omega))
  have ld3 : (Y1.setCell ⟨w.heap.size + 1 + 1, 2, none⟩ (.slice (some ⟨gU, 0, none⟩) up.length up.length)).cell? ⟨w.heap.size, 3, none⟩ = some (.int .i64 clock) := by rw [cell_of_row _ _ 3 _ _ (0, 0) hV2.arg]; rfl
  have st3 : (Y1.setCell ⟨w.heap.size + 1 + 1, 2, none⟩ (.slice (some ⟨gU, 0, none⟩) up.length up.length)).cell? ⟨w.heap.size + 1 + 1, 3, none⟩ = some (.int .i64 0) := by rw [cell_of_row _ _ 3 _ _ (0, 0) hV2.out]; rfl
  have sf3 : (Y1.setCell ⟨w.heap.size + 1 + 1, 2, none⟩ (.slice (some ⟨gU, 0, none⟩) up.length up.length)).frozen? ⟨w.heap.size + 1 + 1, 3, none⟩ = false := frozen_of_row _ _ 3 _ _ hV2.out
  have hV3 : ToF w ((Y1.setCell ⟨w.heap.size + 1 + 1, 2, none⟩ (.slice (some ⟨gU, 0, none⟩) up.length up.length)).setCell ⟨w.heap.size + 1 + 1, 3, none⟩ (.int .i64 clock)) #[.slice aS set.length cS, .int .i64 wait, .slice aU up.length cU, .int .i64 clock, .int .i64 epoch, .slice aL leases.length cL, .slice aR done.length cR, .slice aN net.length cN, .int .i64 room, .slice aI items.length cI] #[.slice (some ⟨gS, 0, none⟩) set.length set.length, .int .i64 wait, .slice (some ⟨gU, 0, none⟩) up.length up.length, .int .i64 clock, .int .i64 0, .slice none 0 0, .slice none 0 0, .slice none 0 0, .int .i64 0, .slice none 0 0] := hV2.set 3 _ (heap_setCell_same _ _ 3 _ _ _ hV2.out)
  have KSz1 := KSz0.step (Above.set (B := (w.heap.size + 1 + 1 + 1)) (Y1.setCell ⟨w.heap.size + 1 + 1, 2, none⟩ (.slice (some ⟨gU, 0, none⟩) up.length up.length)) ⟨w.heap.size + 1 + 1, 3, none⟩ (.int .i64 clock) (by show w.heap.size + 1 + 1 < _; omega))
  have KUz1 := KUz0.step (Above.set (B := (w.heap.size + 1 + 1 + 1)) (Y1.setCell ⟨w.heap.size + 1 + 1, 2, none⟩ (.slice (some ⟨gU, 0, none⟩) up.length up.length)) ⟨w.heap.size + 1 + 1, 3, none⟩ (.int .i64 clock) (by show w.heap.size + 1 + 1 < _; omega))
  have ld4 : ((Y1.setCell ⟨w.heap.size + 1 + 1, 2, none⟩ (.slice (some ⟨gU, 0, none⟩) up.length up.length)).setCell ⟨w.heap.size + 1 + 1, 3, none⟩ (.int .i64 clock)).cell? ⟨w.heap.size, 4, none⟩ = some (.int .i64 epoch) := by rw [cell_of_row _ _ 4 _ _ (0, 0) hV3.arg]; rfl
  have st4 : ((Y1.setCell ⟨w.heap.size + 1 + 1, 2, none⟩ (.slice (some ⟨gU, 0, none⟩) up.length up.length)).setCell ⟨w.heap.size + 1 + 1, 3, none⟩ (.int .i64 clock)).cell? ⟨w.heap.size + 1 + 1, 4, none⟩ = some (.int .i64 0) := by rw [cell_of_row _ _ 4 _ _ (0, 0) hV3.out]; rfl
  have sf4 : ((Y1.setCell ⟨w.heap.size + 1 + 1, 2, none⟩ (.slice (some ⟨gU, 0, none⟩) up.length up.length)).setCell ⟨w.heap.size + 1 + 1, 3, none⟩ (.int .i64 clock)).frozen? ⟨w.heap.size + 1 + 1, 4, none⟩ = false := frozen_of_row _ _ 4 _ _ hV3.out
  have hV4 : ToF w (((Y1.setCell ⟨w.heap.size + 1 + 1, 2, none⟩ (.slice (some ⟨gU, 0, none⟩) up.length up.length)).setCell ⟨w.heap.size + 1 + 1, 3, none⟩ (.int .i64 clock)).setCell ⟨w.heap.size + 1 + 1, 4, none⟩ (.int .i64 epoch)) #[.slice aS set.length cS, .int .i64 wait, .slice aU up.length cU, .int .i64 clock, .int .i64 epoch, .slice aL leases.length cL, .slice aR done.length cR, .slice aN net.length cN, .int .i64 room, .slice aI items.length cI] #[.slice (some ⟨gS, 0, none⟩) set.length set.length, .int .i64 wait, .slice (some ⟨gU, 0, none⟩) up.length up.length, .int .i64 clock, .int .i64 epoch, .slice none 0 0, .slice none 0 0, .slice none 0 0, .int .i64 0, .slice none 0 0] := hV3.set 4 _ (heap_setCell_same _ _ 4 _ _ _ hV3.out)
  have KSz2 := KSz1.step (Above.set (B := (w.heap.size + 1 + 1 + 1)) ((Y1.setCell ⟨w.heap.size + 1 + 1, 2, none⟩ (.slice (some ⟨gU, 0, none⟩) up.length up.length)).setCell ⟨w.heap.size + 1 + 1, 3, none⟩ (.int .i64 clock)) ⟨w.heap.size + 1 + 1, 4, none⟩ (.int .i64 epoch) (by show w.heap.size + 1 + 1 < _; omega))
  have KUz2 := KUz1.step (Above.set (B := (w.heap.size + 1 + 1 + 1)) ((Y1.setCell ⟨w.heap.size + 1 + 1, 2, none⟩ (.slice (some ⟨gU, 0, none⟩) up.length up.length)).setCell ⟨w.heap.size + 1 + 1, 3, none⟩ (.int .i64 clock)) ⟨w.heap.size + 1 + 1, 4, none⟩ (.int .i64 epoch) (by show w.heap.size + 1 + 1 < _; omega))
  have ld5 : (((Y1.setCell ⟨w.heap.size + 1 + 1, 2, none⟩ (.slice (some ⟨gU, 0, none⟩) up.length up.length)).setCell ⟨w.heap.size + 1 + 1, 3, none⟩ (.int .i64 clock)).setCell ⟨w.heap.size + 1 + 1, 4, none⟩ (.int .i64 epoch)).cell? ⟨w.heap.size, 5, none⟩ = some (.slice aL leases.length cL) := by rw [cell_of_row _ _ 5 _ _ (0, 0) hV4.arg]; rfl
  have LS : Hid (type_of% KSz2) := KSz2
  have LU : Hid (type_of% KUz2) := KUz2
  clear KS KSy KSz0 KSz1 KSz2 KU KUz0 KUz1 KUz2 HU
  clear hkU hb1 hgBU hV1 hgU hU1 hV2 hV3
  go_wp2_with fail
  clear st2 sf2 ld3 st3 sf3 ld4 st4 sf4 ld5
  generalize (((Y1.setCell ⟨w.heap.size + 1 + 1, 2, none⟩ (.slice (some ⟨gU, 0, none⟩) up.length up.length)).setCell ⟨w.heap.size + 1 + 1, 3, none⟩ (.int .i64 clock)).setCell ⟨w.heap.size + 1 + 1, 4, none⟩ (.int .i64 epoch)) = X2 at *
  have KS := LS.out
  have KU := LU.out
  clear LS LU
  refine (HL.out _ hV4.bel).mono ?_
  rintro e Y2 ⟨rfl, hkL, hb2⟩
  obtain ⟨gL, hgL⟩ : ∃ gL, gL = X2.heap.size := ⟨_, rfl⟩
  have hgBL : (w.heap.size + 1 + 1 + 1) ≤ gL := by have := hV4.size; omega
  rw [← hgL] at hkL ⊢
  have KL : Keeps (w.heap.size + 1 + 1 + 1) Y2 fun F => RowA 3 LeF F (.slice (some ⟨gL, 0, none⟩) leases.length leases.length) leases := fun F hF => rowAbove hkL hF hgBL
  have KSy := KS.step (Above.of_below (B := (w.heap.size + 1 + 1 + 1)) hb2)
  have KUy := KU.step (Above.of_below (B := (w.heap.size + 1 + 1 + 1)) hb2)
  have hU2 := hV4.call hb2
  have st5 : Y2.cell? ⟨w.heap.size + 1 + 1, 5, none⟩ = some (.slice none 0 0) := by rw [cell_of_row _ _ 5 _ _ (0, 0) hU2.out]; rfl
  have sf5 : Y2.frozen? ⟨w.heap.size + 1 + 1, 5, none⟩ = false := frozen_of_row _ _ 5 _ _ hU2.out
  have hV5 : ToF w (Y2.setCell ⟨w.heap.size + 1 + 1, 5, none⟩ (.slice (some ⟨gL, 0, none⟩) leases.length leases.length)) #[.slice aS set.length cS, .int .i64 wait, .slice aU up.length cU, .int .i64 clock, .int .i64 epoch, .slice aL leases.length cL, .slice aR done.length cR, .slice aN net.length cN, .int .i64 room, .slice aI items.length cI] #[.slice (some ⟨gS, 0, none⟩) set.length set.length, .int .i64 wait, .slice (some ⟨gU, 0, none⟩) up.length up.length, .int .i64 clock, .int .i64 epoch, .slice (some ⟨gL, 0, none⟩) leases.length leases.length, .slice none 0 0, .slice none 0 0, .int .i64 0, .slice none 0 0] := hU2.set 5 _ (heap_setCell_same _ _ 5 _ _ _ hU2.out)
  have KSz0 := KSy.step (Above.set (B := (w.heap.size + 1 + 1 + 1)) Y2 ⟨w.heap.size + 1 + 1, 5, none⟩ (.slice (some ⟨gL, 0, none⟩) leases.length leases.length) (by show w.heap.size + 1 + 1 < _; omega))
  have KUz0 := KUy.step (Above.set (B := (w.heap.size + 1 + 1 + 1)) Y2 ⟨w.heap.size + 1 + 1, 5, none⟩ (.slice (some ⟨gL, 0, none⟩) leases.length leases.length) (by show w.heap.size + 1 + 1 < _; omega))
  have KLz0 := KL.step (Above.set (B := (w.heap.size + 1 + 1 + 1)) Y2 ⟨w.heap.size + 1 + 1, 5, none⟩ (.slice (some ⟨gL, 0, none⟩) leases.length leases.length) (by show w.heap.size + 1 + 1 < _; omega))
  have ld6 : (Y2.setCell ⟨w.heap.size + 1 + 1, 5, none⟩ (.slice (some ⟨gL, 0, none⟩) leases.length leases.length)).cell? ⟨w.heap.size, 6, none⟩ = some (.slice aR done.length cR) := by rw [cell_of_row _ _ 6 _ _ (0, 0) hV5.arg]; rfl
  have LS : Hid (type_of% KSz0) := KSz0
  have LU : Hid (type_of% KUz0) := KUz0
  have LL : Hid (type_of% KLz0) := KLz0
  clear KS KSy KSz0 KU KUy KUz0 KL KLz0 HL
  clear hkL hb2 hgBL hV4 hgL hU2
  go_wp2_with fail
  clear st5 sf5 ld6
  generalize (Y2.setCell ⟨w.heap.size + 1 + 1, 5, none⟩ (.slice (some ⟨gL, 0, none⟩) leases.length leases.length)) = X3 at *
  have KS := LS.out
  have KU := LU.out
  have KL := LL.out
  clear LS LU LL
  refine (HR.out _ hV5.bel).mono ?_
  rintro e Y3 ⟨rfl, ⟨done2, hsr, hkR⟩, hb3⟩
  obtain ⟨gR, hgR⟩ : ∃ gR, gR = X3.heap.size := ⟨_, rfl⟩
  have hgBR : (w.heap.size + 1 + 1 + 1) ≤ gR := by have := hV5.size; omega
  rw [← hgR] at hkR ⊢
  have KR : Keeps (w.heap.size + 1 + 1 + 1) Y3 fun F => ResAt F n (.slice (some ⟨gR, 0, none⟩) done.length done.length) done2 := fun F hF => hkR F (hF.mono hgBR)
  have KSy := KS.step (Above.of_below (B := (w.heap.size + 1 + 1 + 1)) hb3)
  have KUy := KU.step (Above.of_below (B := (w.heap.size + 1 + 1 + 1)) hb3)
  have KLy := KL.step (Above.of_below (B := (w.heap.size + 1 + 1 + 1)) hb3)
  have hU3 := hV5.call hb3
  have st6 : Y3.cell? ⟨w.heap.size + 1 + 1, 6, none⟩ = some (.slice none 0 0) := by rw [cell_of_row _ _ 6 _ _ (0, 0) hU3.out]; rfl
  have sf6 : Y3.frozen? ⟨w.heap.size + 1 + 1, 6, none⟩ = false := frozen_of_row _ _ 6 _ _ hU3.out
  have hV6 : ToF w (Y3.setCell ⟨w.heap.size + 1 + 1, 6, none⟩ (.slice (some ⟨gR, 0, none⟩) done.length done.length)) #[.slice aS set.length cS, .int .i64 wait, .slice aU up.length cU, .int .i64 clock, .int .i64 epoch, .slice aL leases.length cL, .slice aR done.length cR, .slice aN net.length cN, .int .i64 room, .slice aI items.length cI] #[.slice (some ⟨gS, 0, none⟩) set.length set.length, .int .i64 wait, .slice (some ⟨gU, 0, none⟩) up.length up.length, .int .i64 clock, .int .i64 epoch, .slice (some ⟨gL, 0, none⟩) leases.length leases.length, .slice (some ⟨gR, 0, none⟩) done.length done.length, .slice none 0 0, .int .i64 0, .slice none 0 0] := hU3.set 6 _ (heap_setCell_same _ _ 6 _ _ _ hU3.out)
  have KSz0 := KSy.step (Above.set (B := (w.heap.size + 1 + 1 + 1)) Y3 ⟨w.heap.size + 1 + 1, 6, none⟩ (.slice (some ⟨gR, 0, none⟩) done.length done.length) (by show w.heap.size + 1 + 1 < _; omega))
  have KUz0 := KUy.step (Above.set (B := (w.heap.size + 1 + 1 + 1)) Y3 ⟨w.heap.size + 1 + 1, 6, none⟩ (.slice (some ⟨gR, 0, none⟩) done.length done.length) (by show w.heap.size + 1 + 1 < _; omega))
  have KLz0 := KLy.step (Above.set (B := (w.heap.size + 1 + 1 + 1)) Y3 ⟨w.heap.size + 1 + 1, 6, none⟩ (.slice (some ⟨gR, 0, none⟩) done.length done.length) (by show w.heap.size + 1 + 1 < _; omega))
  have KRz0 := KR.step (Above.set (B := (w.heap.size + 1 + 1 + 1)) Y3 ⟨w.heap.size + 1 + 1, 6, none⟩ (.slice (some ⟨gR, 0, none⟩) done.length done.length) (by show w.heap.size + 1 + 1 < _; omega))
  have ld7 : (Y3.setCell ⟨w.heap.size + 1 + 1, 6, none⟩ (.slice (some ⟨gR, 0, none⟩) done.length done.length)).cell? ⟨w.heap.size, 7, none⟩ = some (.slice aN net.length cN) := by rw [cell_of_row _ _ 7 _ _ (0, 0) hV6.arg]; rfl
  have LS : Hid (type_of% KSz0) := KSz0
  have LU : Hid (type_of% KUz0) := KUz0
  have LL : Hid (type_of% KLz0) := KLz0
  have LR : Hid (type_of% KRz0) := KRz0
  clear KS KSy KSz0 KU KUy KUz0 KL KLy KLz0 KR KRz0 HR
  clear hkR hb3 hgBR hV5 hgR hU3
  go_wp2_with fail
  clear st6 sf6 ld7
  generalize (Y3.setCell ⟨w.heap.size + 1 + 1, 6, none⟩ (.slice (some ⟨gR, 0, none⟩) done.length done.length)) = X4 at *
  have KS := LS.out
  have KU := LU.out
  have KL := LL.out
  have KR := LR.out
  clear LS LU LL LR
  refine (HN.out _ hV6.bel).mono ?_
  rintro e Y4 ⟨rfl, hkN, hb4⟩
  obtain ⟨gN, hgN⟩ : ∃ gN, gN = X4.heap.size := ⟨_, rfl⟩
  have hgBN : (w.heap.size + 1 + 1 + 1) ≤ gN := by have := hV6.size; omega
  rw [← hgN] at hkN ⊢
  have KN : Keeps (w.heap.size + 1 + 1 + 1) Y4 fun F => RowA 3 PaF F (.slice (some ⟨gN, 0, none⟩) net.length net.length) net := fun F hF => rowAbove hkN hF hgBN
  have KSy := KS.step (Above.of_below (B := (w.heap.size + 1 + 1 + 1)) hb4)
  have KUy := KU.step (Above.of_below (B := (w.heap.size + 1 + 1 + 1)) hb4)
  have KLy := KL.step (Above.of_below (B := (w.heap.size + 1 + 1 + 1)) hb4)
  have KRy := KR.step (Above.of_below (B := (w.heap.size + 1 + 1 + 1)) hb4)
  have hU4 := hV6.call hb4
  have st7 : Y4.cell? ⟨w.heap.size + 1 + 1, 7, none⟩ = some (.slice none 0 0) := by rw [cell_of_row _ _ 7 _ _ (0, 0) hU4.out]; rfl
  have sf7 : Y4.frozen? ⟨w.heap.size + 1 + 1, 7, none⟩ = false := frozen_of_row _ _ 7 _ _ hU4.out
  have hV7 : ToF w (Y4.setCell ⟨w.heap.size + 1 + 1, 7, none⟩ (.slice (some ⟨gN, 0, none⟩) net.length net.length)) #[.slice aS set.length cS, .int .i64 wait, .slice aU up.length cU, .int .i64 clock, .int .i64 epoch, .slice aL leases.length cL, .slice aR done.length cR, .slice aN net.length cN, .int .i64 room, .slice aI items.length cI] #[.slice (some ⟨gS, 0, none⟩) set.length set.length, .int .i64 wait, .slice (some ⟨gU, 0, none⟩) up.length up.length, .int .i64 clock, .int .i64 epoch, .slice (some ⟨gL, 0, none⟩) leases.length leases.length, .slice (some ⟨gR, 0, none⟩) done.length done.length, .slice (some ⟨gN, 0, none⟩) net.length net.length, .int .i64 0, .slice none 0 0] := hU4.set 7 _ (heap_setCell_same _ _ 7 _ _ _ hU4.out)
  have KSz0 := KSy.step (Above.set (B := (w.heap.size + 1 + 1 + 1)) Y4 ⟨w.heap.size + 1 + 1, 7, none⟩ (.slice (some ⟨gN, 0, none⟩) net.length net.length) (by show w.heap.size + 1 + 1 < _; omega))
  have KUz0 := KUy.step (Above.set (B := (w.heap.size + 1 + 1 + 1)) Y4 ⟨w.heap.size + 1 + 1, 7, none⟩ (.slice (some ⟨gN, 0, none⟩) net.length net.length) (by show w.heap.size + 1 + 1 < _; omega))
  have KLz0 := KLy.step (Above.set (B := (w.heap.size + 1 + 1 + 1)) Y4 ⟨w.heap.size + 1 + 1, 7, none⟩ (.slice (some ⟨gN, 0, none⟩) net.length net.length) (by show w.heap.size + 1 + 1 < _; omega))
  have KRz0 := KRy.step (Above.set (B := (w.heap.size + 1 + 1 + 1)) Y4 ⟨w.heap.size + 1 + 1, 7, none⟩ (.slice (some ⟨gN, 0, none⟩) net.length net.length) (by show w.heap.size + 1 + 1 < _; omega))
  have KNz0 := KN.step (Above.set (B := (w.heap.size + 1 + 1 + 1)) Y4 ⟨w.heap.size + 1 + 1, 7, none⟩ (.slice (some ⟨gN, 0, none⟩) net.length net.length) (by show w.heap.size + 1 + 1 < _; omega))
  have ld8 : (Y4.setCell ⟨w.heap.size + 1 + 1, 7, none⟩ (.slice (some ⟨gN, 0, none⟩) net.length net.length)).cell? ⟨w.heap.size, 8, none⟩ = some (.int .i64 room) := by rw [cell_of_row _ _ 8 _ _ (0, 0) hV7.arg]; rfl
  have ld9 : (Y4.setCell ⟨w.heap.size + 1 + 1, 7, none⟩ (.slice (some ⟨gN, 0, none⟩) net.length net.length)).cell? ⟨w.heap.size, 9, none⟩ = some (.slice aI items.length cI) := by rw [cell_of_row _ _ 9 _ _ (0, 0) hV7.arg]; rfl
  have LS : Hid (type_of% KSz0) := KSz0
  have LU : Hid (type_of% KUz0) := KUz0
  have LL : Hid (type_of% KLz0) := KLz0
  have LR : Hid (type_of% KRz0) := KRz0
  have LN : Hid (type_of% KNz0) := KNz0
  clear KS KSy KSz0 KU KUy KUz0 KL KLy KLz0 KR KRy KRz0 KN KNz0 HN
  clear hkN hb4 hgBN hV6 hgN hU4
  go_wp2_with fail
  clear st7 sf7 ld8 ld9
  generalize (Y4.setCell ⟨w.heap.size + 1 + 1, 7, none⟩ (.slice (some ⟨gN, 0, none⟩) net.length net.length)) = X5 at *
  have KS := LS.out
  have KU := LU.out
  have KL := LL.out
  have KR := LR.out
  have KN := LN.out
  clear LS LU LL LR LN
  refine (HI.out _ hV7.bel).mono ?_
  rintro e Y5 ⟨gI, rfl, hgI, hkI, hb5⟩
  have hgBI : (w.heap.size + 1 + 1 + 1) ≤ gI := by have := hV7.size; omega
  have KI : Keeps (w.heap.size + 1 + 1 + 1) Y5 fun F => ItAt F (.slice (some ⟨gI, 0, none⟩) items.length items.length) items := fun F hF => itAbove hkI hF hgBI
  have KSy := KS.step (Above.of_below (B := (w.heap.size + 1 + 1 + 1)) hb5)
  have KUy := KU.step (Above.of_below (B := (w.heap.size + 1 + 1 + 1)) hb5)
  have KLy := KL.step (Above.of_below (B := (w.heap.size + 1 + 1 + 1)) hb5)
  have KRy := KR.step (Above.of_below (B := (w.heap.size + 1 + 1 + 1)) hb5)
  have KNy := KN.step (Above.of_below (B := (w.heap.size + 1 + 1 + 1)) hb5)
  have hU5 := hV7.call hb5
  have st8 : Y5.cell? ⟨w.heap.size + 1 + 1, 8, none⟩ = some (.int .i64 0) := by rw [cell_of_row _ _ 8 _ _ (0, 0) hU5.out]; rfl
  have sf8 : Y5.frozen? ⟨w.heap.size + 1 + 1, 8, none⟩ = false := frozen_of_row _ _ 8 _ _ hU5.out
  have st9 : Y5.cell? ⟨w.heap.size + 1 + 1, 9, none⟩ = some (.slice none 0 0) := by rw [cell_of_row _ _ 9 _ _ (0, 0) hU5.out]; rfl
  have sf9 : Y5.frozen? ⟨w.heap.size + 1 + 1, 9, none⟩ = false := frozen_of_row _ _ 9 _ _ hU5.out
  have hV8 : ToF w (Y5.setCell ⟨w.heap.size + 1 + 1, 8, none⟩ (.int .i64 room)) #[.slice aS set.length cS, .int .i64 wait, .slice aU up.length cU, .int .i64 clock, .int .i64 epoch, .slice aL leases.length cL, .slice aR done.length cR, .slice aN net.length cN, .int .i64 room, .slice aI items.length cI] #[.slice (some ⟨gS, 0, none⟩) set.length set.length, .int .i64 wait, .slice (some ⟨gU, 0, none⟩) up.length up.length, .int .i64 clock, .int .i64 epoch, .slice (some ⟨gL, 0, none⟩) leases.length leases.length, .slice (some ⟨gR, 0, none⟩) done.length done.length, .slice (some ⟨gN, 0, none⟩) net.length net.length, .int .i64 room, .slice none 0 0] := hU5.set 8 _ (heap_setCell_same _ _ 8 _ _ _ hU5.out)
  have KSz0 := KSy.step (Above.set (B := (w.heap.size + 1 + 1 + 1)) Y5 ⟨w.heap.size + 1 + 1, 8, none⟩ (.int .i64 room) (by show w.heap.size + 1 + 1 < _; omega))
  have KUz0 := KUy.step (Above.set (B := (w.heap.size + 1 + 1 + 1)) Y5 ⟨w.heap.size + 1 + 1, 8, none⟩ (.int .i64 room) (by show w.heap.size + 1 + 1 < _; omega))
  have KLz0 := KLy.step (Above.set (B := (w.heap.size + 1 + 1 + 1)) Y5 ⟨w.heap.size + 1 + 1, 8, none⟩ (.int .i64 room) (by show w.heap.size + 1 + 1 < _; omega))
  have KRz0 := KRy.step (Above.set (B := (w.heap.size + 1 + 1 + 1)) Y5 ⟨w.heap.size + 1 + 1, 8, none⟩ (.int .i64 room) (by show w.heap.size + 1 + 1 < _; omega))
  have KNz0 := KNy.step (Above.set (B := (w.heap.size + 1 + 1 + 1)) Y5 ⟨w.heap.size + 1 + 1, 8, none⟩ (.int .i64 room) (by show w.heap.size + 1 + 1 < _; omega))
  have KIz0 := KI.step (Above.set (B := (w.heap.size + 1 + 1 + 1)) Y5 ⟨w.heap.size + 1 + 1, 8, none⟩ (.int .i64 room) (by show w.heap.size + 1 + 1 < _; omega))
  have hV9 : ToF w ((Y5.setCell ⟨w.heap.size + 1 + 1, 8, none⟩ (.int .i64 room)).setCell ⟨w.heap.size + 1 + 1, 9, none⟩ (.slice (some ⟨gI, 0, none⟩) items.length items.length)) #[.slice aS set.length cS, .int .i64 wait, .slice aU up.length cU, .int .i64 clock, .int .i64 epoch, .slice aL leases.length cL, .slice aR done.length cR, .slice aN net.length cN, .int .i64 room, .slice aI items.length cI] #[.slice (some ⟨gS, 0, none⟩) set.length set.length, .int .i64 wait, .slice (some ⟨gU, 0, none⟩) up.length up.length, .int .i64 clock, .int .i64 epoch, .slice (some ⟨gL, 0, none⟩) leases.length leases.length, .slice (some ⟨gR, 0, none⟩) done.length done.length, .slice (some ⟨gN, 0, none⟩) net.length net.length, .int .i64 room, .slice (some ⟨gI, 0, none⟩) items.length items.length] := hV8.set 9 _ (heap_setCell_same _ _ 9 _ _ _ hV8.out)
  have KSz1 := KSz0.step (Above.set (B := (w.heap.size + 1 + 1 + 1)) (Y5.setCell ⟨w.heap.size + 1 + 1, 8, none⟩ (.int .i64 room)) ⟨w.heap.size + 1 + 1, 9, none⟩ (.slice (some ⟨gI, 0, none⟩) items.length items.length) (by show w.heap.size + 1 + 1 < _; omega))
  have KUz1 := KUz0.step (Above.set (B := (w.heap.size + 1 + 1 + 1)) (Y5.setCell ⟨w.heap.size + 1 + 1, 8, none⟩ (.int .i64 room)) ⟨w.heap.size + 1 + 1, 9, none⟩ (.slice (some ⟨gI, 0, none⟩) items.length items.length) (by show w.heap.size + 1 + 1 < _; omega))
  have KLz1 := KLz0.step (Above.set (B := (w.heap.size + 1 + 1 + 1)) (Y5.setCell ⟨w.heap.size + 1 + 1, 8, none⟩ (.int .i64 room)) ⟨w.heap.size + 1 + 1, 9, none⟩ (.slice (some ⟨gI, 0, none⟩) items.length items.length) (by show w.heap.size + 1 + 1 < _; omega))
  have KRz1 := KRz0.step (Above.set (B := (w.heap.size + 1 + 1 + 1)) (Y5.setCell ⟨w.heap.size + 1 + 1, 8, none⟩ (.int .i64 room)) ⟨w.heap.size + 1 + 1, 9, none⟩ (.slice (some ⟨gI, 0, none⟩) items.length items.length) (by show w.heap.size + 1 + 1 < _; omega))
  have KNz1 := KNz0.step (Above.set (B := (w.heap.size + 1 + 1 + 1)) (Y5.setCell ⟨w.heap.size + 1 + 1, 8, none⟩ (.int .i64 room)) ⟨w.heap.size + 1 + 1, 9, none⟩ (.slice (some ⟨gI, 0, none⟩) items.length items.length) (by show w.heap.size + 1 + 1 < _; omega))
  have KIz1 := KIz0.step (Above.set (B := (w.heap.size + 1 + 1 + 1)) (Y5.setCell ⟨w.heap.size + 1 + 1, 8, none⟩ (.int .i64 room)) ⟨w.heap.size + 1 + 1, 9, none⟩ (.slice (some ⟨gI, 0, none⟩) items.length items.length) (by show w.heap.size + 1 + 1 < _; omega))
  have LS : Hid (type_of% KSz1) := KSz1
  have LU : Hid (type_of% KUz1) := KUz1
  have LL : Hid (type_of% KLz1) := KLz1
  have LR : Hid (type_of% KRz1) := KRz1
  have LN : Hid (type_of% KNz1) := KNz1
  have LI : Hid (type_of% KIz1) := KIz1
  clear KS KSy KSz0 KSz1 KU KUy KUz0 KUz1 KL KLy KLz0 KLz1 KR KRy KRz0 KRz1 KN KNy KNz0 KNz1 KI KIz0 KIz1 HI
  have r0 : ((Y5.setCell ⟨w.heap.size + 1 + 1, 8, none⟩ (.int .i64 room)).setCell ⟨w.heap.size + 1 + 1, 9, none⟩ (.slice (some ⟨gI, 0, none⟩) items.length items.length)).cell? ⟨w.heap.size + 1 + 1, 0, none⟩ = some (.slice (some ⟨gS, 0, none⟩) set.length set.length) := by rw [cell_of_row _ _ 0 _ _ (0, 0) hV9.out]; rfl
  have d0 : ((Y5.setCell ⟨w.heap.size + 1 + 1, 8, none⟩ (.int .i64 room)).setCell ⟨w.heap.size + 1 + 1, 9, none⟩ (.slice (some ⟨gI, 0, none⟩) items.length items.length)).cell? ⟨w.heap.size + 1, 0, none⟩ = some (.slice none 0 0) := by rw [cell_of_row _ _ 0 _ _ (0, 0) hV9.res]; rfl
  have f0 : ((Y5.setCell ⟨w.heap.size + 1 + 1, 8, none⟩ (.int .i64 room)).setCell ⟨w.heap.size + 1 + 1, 9, none⟩ (.slice (some ⟨gI, 0, none⟩) items.length items.length)).frozen? ⟨w.heap.size + 1, 0, none⟩ = false := frozen_of_row _ _ 0 _ _ hV9.res
  have r1 : ((Y5.setCell ⟨w.heap.size + 1 + 1, 8, none⟩ (.int .i64 room)).setCell ⟨w.heap.size + 1 + 1, 9, none⟩ (.slice (some ⟨gI, 0, none⟩) items.length items.length)).cell? ⟨w.heap.size + 1 + 1, 1, none⟩ = some (.int .i64 wait) := by rw [cell_of_row _ _ 1 _ _ (0, 0) hV9.out]; rfl
  have d1 : ((Y5.setCell ⟨w.heap.size + 1 + 1, 8, none⟩ (.int .i64 room)).setCell ⟨w.heap.size + 1 + 1, 9, none⟩ (.slice (some ⟨gI, 0, none⟩) items.length items.length)).cell? ⟨w.heap.size + 1, 1, none⟩ = some (.int .i64 0) := by rw [cell_of_row _ _ 1 _ _ (0, 0) hV9.res]; rfl
  have f1 : ((Y5.setCell ⟨w.heap.size + 1 + 1, 8, none⟩ (.int .i64 room)).setCell ⟨w.heap.size + 1 + 1, 9, none⟩ (.slice (some ⟨gI, 0, none⟩) items.length items.length)).frozen? ⟨w.heap.size + 1, 1, none⟩ = false := frozen_of_row _ _ 1 _ _ hV9.res
  have r2 : ((Y5.setCell ⟨w.heap.size + 1 + 1, 8, none⟩ (.int .i64 room)).setCell ⟨w.heap.size + 1 + 1, 9, none⟩ (.slice (some ⟨gI, 0, none⟩) items.length items.length)).cell? ⟨w.heap.size + 1 + 1, 2, none⟩ = some (.slice (some ⟨gU, 0, none⟩) up.length up.length) := by rw [cell_of_row _ _ 2 _ _ (0, 0) hV9.out]; rfl
  have d2 : ((Y5.setCell ⟨w.heap.size + 1 + 1, 8, none⟩ (.int .i64 room)).setCell ⟨w.heap.size + 1 + 1, 9, none⟩ (.slice (some ⟨gI, 0, none⟩) items.length items.length)).cell? ⟨w.heap.size + 1, 2, none⟩ = some (.slice none 0 0) := by rw [cell_of_row _ _ 2 _ _ (0, 0) hV9.res]; rfl
  have f2 : ((Y5.setCell ⟨w.heap.size + 1 + 1, 8, none⟩ (.int .i64 room)).setCell ⟨w.heap.size + 1 + 1, 9, none⟩ (.slice (some ⟨gI, 0, none⟩) items.length items.length)).frozen? ⟨w.heap.size + 1, 2, none⟩ = false := frozen_of_row _ _ 2 _ _ hV9.res
  have r3 : ((Y5.setCell ⟨w.heap.size + 1 + 1, 8, none⟩ (.int .i64 room)).setCell ⟨w.heap.size + 1 + 1, 9, none⟩ (.slice (some ⟨gI, 0, none⟩) items.length items.length)).cell? ⟨w.heap.size + 1 + 1, 3, none⟩ = some (.int .i64 clock) := by rw [cell_of_row _ _ 3 _ _ (0, 0) hV9.out]; rfl
  have d3 : ((Y5.setCell ⟨w.heap.size + 1 + 1, 8, none⟩ (.int .i64 room)).setCell ⟨w.heap.size + 1 + 1, 9, none⟩ (.slice (some ⟨gI, 0, none⟩) items.length items.length)).cell? ⟨w.heap.size + 1, 3, none⟩ = some (.int .i64 0) := by rw [cell_of_row _ _ 3 _ _ (0, 0) hV9.res]; rfl
  have f3 : ((Y5.setCell ⟨w.heap.size + 1 + 1, 8, none⟩ (.int .i64 room)).setCell ⟨w.heap.size + 1 + 1, 9, none⟩ (.slice (some ⟨gI, 0, none⟩) items.length items.length)).frozen? ⟨w.heap.size + 1, 3, none⟩ = false := frozen_of_row _ _ 3 _ _ hV9.res
  have r4 : ((Y5.setCell ⟨w.heap.size + 1 + 1, 8, none⟩ (.int .i64 room)).setCell ⟨w.heap.size + 1 + 1, 9, none⟩ (.slice (some ⟨gI, 0, none⟩) items.length items.length)).cell? ⟨w.heap.size + 1 + 1, 4, none⟩ = some (.int .i64 epoch) := by rw [cell_of_row _ _ 4 _ _ (0, 0) hV9.out]; rfl
  have d4 : ((Y5.setCell ⟨w.heap.size + 1 + 1, 8, none⟩ (.int .i64 room)).setCell ⟨w.heap.size + 1 + 1, 9, none⟩ (.slice (some ⟨gI, 0, none⟩) items.length items.length)).cell? ⟨w.heap.size + 1, 4, none⟩ = some (.int .i64 0) := by rw [cell_of_row _ _ 4 _ _ (0, 0) hV9.res]; rfl
  have f4 : ((Y5.setCell ⟨w.heap.size + 1 + 1, 8, none⟩ (.int .i64 room)).setCell ⟨w.heap.size + 1 + 1, 9, none⟩ (.slice (some ⟨gI, 0, none⟩) items.length items.length)).frozen? ⟨w.heap.size + 1, 4, none⟩ = false := frozen_of_row _ _ 4 _ _ hV9.res
  have r5 : ((Y5.setCell ⟨w.heap.size + 1 + 1, 8, none⟩ (.int .i64 room)).setCell ⟨w.heap.size + 1 + 1, 9, none⟩ (.slice (some ⟨gI, 0, none⟩) items.length items.length)).cell? ⟨w.heap.size + 1 + 1, 5, none⟩ = some (.slice (some ⟨gL, 0, none⟩) leases.length leases.length) := by rw [cell_of_row _ _ 5 _ _ (0, 0) hV9.out]; rfl
  have d5 : ((Y5.setCell ⟨w.heap.size + 1 + 1, 8, none⟩ (.int .i64 room)).setCell ⟨w.heap.size + 1 + 1, 9, none⟩ (.slice (some ⟨gI, 0, none⟩) items.length items.length)).cell? ⟨w.heap.size + 1, 5, none⟩ = some (.slice none 0 0) := by rw [cell_of_row _ _ 5 _ _ (0, 0) hV9.res]; rfl
  have f5 : ((Y5.setCell ⟨w.heap.size + 1 + 1, 8, none⟩ (.int .i64 room)).setCell ⟨w.heap.size + 1 + 1, 9, none⟩ (.slice (some ⟨gI, 0, none⟩) items.length items.length)).frozen? ⟨w.heap.size + 1, 5, none⟩ = false := frozen_of_row _ _ 5 _ _ hV9.res
  have r6 : ((Y5.setCell ⟨w.heap.size + 1 + 1, 8, none⟩ (.int .i64 room)).setCell ⟨w.heap.size + 1 + 1, 9, none⟩ (.slice (some ⟨gI, 0, none⟩) items.length items.length)).cell? ⟨w.heap.size + 1 + 1, 6, none⟩ = some (.slice (some ⟨gR, 0, none⟩) done.length done.length) := by rw [cell_of_row _ _ 6 _ _ (0, 0) hV9.out]; rfl
  have d6 : ((Y5.setCell ⟨w.heap.size + 1 + 1, 8, none⟩ (.int .i64 room)).setCell ⟨w.heap.size + 1 + 1, 9, none⟩ (.slice (some ⟨gI, 0, none⟩) items.length items.length)).cell? ⟨w.heap.size + 1, 6, none⟩ = some (.slice none 0 0) := by rw [cell_of_row _ _ 6 _ _ (0, 0) hV9.res]; rfl
  have f6 : ((Y5.setCell ⟨w.heap.size + 1 + 1, 8, none⟩ (.int .i64 room)).setCell ⟨w.heap.size + 1 + 1, 9, none⟩ (.slice (some ⟨gI, 0, none⟩) items.length items.length)).frozen? ⟨w.heap.size + 1, 6, none⟩ = false := frozen_of_row _ _ 6 _ _ hV9.res
  have r7 : ((Y5.setCell ⟨w.heap.size + 1 + 1, 8, none⟩ (.int .i64 room)).setCell ⟨w.heap.size + 1 + 1, 9, none⟩ (.slice (some ⟨gI, 0, none⟩) items.length items.length)).cell? ⟨w.heap.size + 1 + 1, 7, none⟩ = some (.slice (some ⟨gN, 0, none⟩) net.length net.length) := by rw [cell_of_row _ _ 7 _ _ (0, 0) hV9.out]; rfl
  have d7 : ((Y5.setCell ⟨w.heap.size + 1 + 1, 8, none⟩ (.int .i64 room)).setCell ⟨w.heap.size + 1 + 1, 9, none⟩ (.slice (some ⟨gI, 0, none⟩) items.length items.length)).cell? ⟨w.heap.size + 1, 7, none⟩ = some (.slice none 0 0) := by rw [cell_of_row _ _ 7 _ _ (0, 0) hV9.res]; rfl
  have f7 : ((Y5.setCell ⟨w.heap.size + 1 + 1, 8, none⟩ (.int .i64 room)).setCell ⟨w.heap.size + 1 + 1, 9, none⟩ (.slice (some ⟨gI, 0, none⟩) items.length items.length)).frozen? ⟨w.heap.size + 1, 7, none⟩ = false := frozen_of_row _ _ 7 _ _ hV9.res
  have r8 : ((Y5.setCell ⟨w.heap.size + 1 + 1, 8, none⟩ (.int .i64 room)).setCell ⟨w.heap.size + 1 + 1, 9, none⟩ (.slice (some ⟨gI, 0, none⟩) items.length items.length)).cell? ⟨w.heap.size + 1 + 1, 8, none⟩ = some (.int .i64 room) := by rw [cell_of_row _ _ 8 _ _ (0, 0) hV9.out]; rfl
  have d8 : ((Y5.setCell ⟨w.heap.size + 1 + 1, 8, none⟩ (.int .i64 room)).setCell ⟨w.heap.size + 1 + 1, 9, none⟩ (.slice (some ⟨gI, 0, none⟩) items.length items.length)).cell? ⟨w.heap.size + 1, 8, none⟩ = some (.int .i64 0) := by rw [cell_of_row _ _ 8 _ _ (0, 0) hV9.res]; rfl
  have f8 : ((Y5.setCell ⟨w.heap.size + 1 + 1, 8, none⟩ (.int .i64 room)).setCell ⟨w.heap.size + 1 + 1, 9, none⟩ (.slice (some ⟨gI, 0, none⟩) items.length items.length)).frozen? ⟨w.heap.size + 1, 8, none⟩ = false := frozen_of_row _ _ 8 _ _ hV9.res
  have r9 : ((Y5.setCell ⟨w.heap.size + 1 + 1, 8, none⟩ (.int .i64 room)).setCell ⟨w.heap.size + 1 + 1, 9, none⟩ (.slice (some ⟨gI, 0, none⟩) items.length items.length)).cell? ⟨w.heap.size + 1 + 1, 9, none⟩ = some (.slice (some ⟨gI, 0, none⟩) items.length items.length) := by rw [cell_of_row _ _ 9 _ _ (0, 0) hV9.out]; rfl
  have d9 : ((Y5.setCell ⟨w.heap.size + 1 + 1, 8, none⟩ (.int .i64 room)).setCell ⟨w.heap.size + 1 + 1, 9, none⟩ (.slice (some ⟨gI, 0, none⟩) items.length items.length)).cell? ⟨w.heap.size + 1, 9, none⟩ = some (.slice none 0 0) := by rw [cell_of_row _ _ 9 _ _ (0, 0) hV9.res]; rfl
  have f9 : ((Y5.setCell ⟨w.heap.size + 1 + 1, 8, none⟩ (.int .i64 room)).setCell ⟨w.heap.size + 1 + 1, 9, none⟩ (.slice (some ⟨gI, 0, none⟩) items.length items.length)).frozen? ⟨w.heap.size + 1, 9, none⟩ = false := frozen_of_row _ _ 9 _ _ hV9.res
  have HEND : Hid ((put10 ((Y5.setCell ⟨w.heap.size + 1 + 1, 8, none⟩ (.int .i64 room)).setCell ⟨w.heap.size + 1 + 1, 9, none⟩ (.slice (some ⟨gI, 0, none⟩) items.length items.length)) (w.heap.size + 1) (.slice (some ⟨gS, 0, none⟩) set.length set.length) (.int .i64 wait) (.slice (some ⟨gU, 0, none⟩) up.length up.length) (.int .i64 clock) (.int .i64 epoch) (.slice (some ⟨gL, 0, none⟩) leases.length leases.length) (.slice (some ⟨gR, 0, none⟩) done.length done.length) (.slice (some ⟨gN, 0, none⟩) net.length net.length) (.int .i64 room) (.slice (some ⟨gI, 0, none⟩) items.length items.length)).heap[w.heap.size + 1]? = some (.cells #[.slice (some ⟨gS, 0, none⟩) set.length set.length, .int .i64 wait, .slice (some ⟨gU, 0, none⟩) up.length up.length, .int .i64 clock, .int .i64 epoch, .slice (some ⟨gL, 0, none⟩) leases.length leases.length, .slice (some ⟨gR, 0, none⟩) done.length done.length, .slice (some ⟨gN, 0, none⟩) net.length net.length, .int .i64 room, .slice (some ⟨gI, 0, none⟩) items.length items.length] 43 (0, 0)) ∧ Above (w.heap.size + 1 + 1 + 1) ((Y5.setCell ⟨w.heap.size + 1 + 1, 8, none⟩ (.int .i64 room)).setCell ⟨w.heap.size + 1 + 1, 9, none⟩ (.slice (some ⟨gI, 0, none⟩) items.length items.length)) (put10 ((Y5.setCell ⟨w.heap.size + 1 + 1, 8, none⟩ (.int .i64 room)).setCell ⟨w.heap.size + 1 + 1, 9, none⟩ (.slice (some ⟨gI, 0, none⟩) items.length items.length)) (w.heap.size + 1) (.slice (some ⟨gS, 0, none⟩) set.length set.length) (.int .i64 wait) (.slice (some ⟨gU, 0, none⟩) up.length up.length) (.int .i64 clock) (.int .i64 epoch) (.slice (some ⟨gL, 0, none⟩) leases.length leases.length) (.slice (some ⟨gR, 0, none⟩) done.length done.length) (.slice (some ⟨gN, 0, none⟩) net.length net.length) (.int .i64 room) (.slice (some ⟨gI, 0, none⟩) items.length items.length)) ∧ Below w.heap.size w (put10 ((Y5.setCell ⟨w.heap.size + 1 + 1, 8, none⟩ (.int .i64 room)).setCell ⟨w.heap.size + 1 + 1, 9, none⟩ (.slice (some ⟨gI, 0, none⟩) items.length items.length)) (w.heap.size + 1) (.slice (some ⟨gS, 0, none⟩) set.length set.length) (.int .i64 wait) (.slice (some ⟨gU, 0, none⟩) up.length up.length) (.int .i64 clock) (.int .i64 epoch) (.slice (some ⟨gL, 0, none⟩) leases.length leases.length) (.slice (some ⟨gR, 0, none⟩) done.length done.length) (.slice (some ⟨gN, 0, none⟩) net.length net.length) (.int .i64 room) (.slice (some ⟨gI, 0, none⟩) items.length items.length))) := ⟨put10R hV9.res, put10_above _ _ _ _ _ _ _ _ _ _ _ _ _ (by omega), put10_below _ _ _ _ _ _ _ _ _ _ _ _ _ hV9.bel (by omega)⟩
  clear hkI hb5 hgBI hV7 hgI hU5 hV8 hV9
  go_wp2_with fail
  obtain ⟨z1, z2, z3⟩ := HEND.out
  refine ret_farm (b := w.heap.size + 1) rfl z1 ⟨⟨.slice (some ⟨gS, 0, none⟩) set.length set.length, set, wait, .slice (some ⟨gU, 0, none⟩) up.length up.length, up, clock, epoch, .slice (some ⟨gL, 0, none⟩) leases.length leases.length, leases, .slice (some ⟨gR, 0, none⟩) done.length done.length, done2, .slice (some ⟨gN, 0, none⟩) net.length net.length, net, room, .slice (some ⟨gI, 0, none⟩) items.length items.length, items⟩, rfl, ⟨rfl, rfl, rfl, rfl, rfl, rfl, hsr, rfl, rfl, rfl⟩, ⟨LS.out _ z2, LU.out _ z2, LL.out _ z2, LR.out _ z2, LN.out _ z2, LI.out _ z2⟩, z3⟩

end Go.Proofs.YtikoacgfnojoeaaGreatDoor

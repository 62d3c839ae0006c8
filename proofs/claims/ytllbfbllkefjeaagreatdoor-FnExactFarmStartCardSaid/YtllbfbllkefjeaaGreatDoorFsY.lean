/-
  The walk of impl.newYard, at a farm that holds no leases, results and packets.
-/
import Derived.Test.YtllbfbllkefjeaaGreatDoorFmL
import Derived.Test.YtllbfbllkefjeaaGreatDoorFrM
import Derived.Test.YtllbfbllkefjeaaGreatDoorItCs
import Derived.Deep.RegionHeld3
namespace Go.Proofs.YtllbfbllkefjeaaGreatDoor
open Go.RowKit

/-- a yard's cells -/
abbrev yardCells (a1 : Option Addr) (n1 c1 : Nat) (wt : Int) (a2 : Option Addr) (n2 c2 : Nat) (rm : Int) (a3 : Option Addr) (n3 c3 : Nat) (st gr dn un : Value) : Array Value := #[.slice a1 n1 c1, .int .i64 wt, .slice a2 n2 c2, .int .i64 0, .int .i64 0, .slice none 0 0, .slice none 0 0, .slice none 0 0, .int .i64 rm, .slice a3 n3 c3, st, gr, dn, un]

theorem Stk.other {B : Nat} {w : World} {sb M : Nat} {lk room : Int} {v : Value} {es : List Itm} (h : Stk B w sb M lk room v es) {b i : Nat} {u : Value} (hb : b < B) : Stk B (w.setCell ⟨b, i, none⟩ u) sb M lk room v es := by
  have h1 := h.bs
  have h2 := h.bm
  refine ⟨?_, itLow h.row (Nat.le_refl _) fun g hg => ?_, h.map.same ?_, h.bs, h.bm⟩
  · rw [Below.heap_setCell _ _ _ _ (by simp; omega)]
    exact h.box
  · have := (h.row.lt g hg).1
    exact Below.heap_setCell _ _ _ _ (by simp; omega)
  · exact Below.heap_setCell _ _ _ _ (by simp; omega)
theorem Stk.low {B B' : Nat} {w : World} {sb M : Nat} {lk room : Int} {v : Value} {es : List Itm} (h : Stk B w sb M lk room v es) (hb : B' ≤ B) : Stk B' w sb M lk room v es := ⟨h.box, itLow h.row hb fun _ _ => rfl, h.map, Nat.le_trans hb h.bs, Nat.le_trans hb h.bm⟩
theorem yard_end {w W1 Z w7 : World} {X2s yb sb M : Nat} {a aI : Option Addr} {c cI n1 c1 : Nat} {a1 a3 : Option Addr} {c3 : Nat} {wt rm : Int} {U : List Bool} {I : List Itm} {M3 : Nat} {un : Value} (hst : NewStock Z.heap.size w7 rm I I.length sb M aI cI) (hb7 : Below Z.heap.size Z w7) (hr : Z.heap[yb]? = some (.cells #[.slice a1 n1 c1, .int .i64 wt, .slice a U.length c, .int .i64 0, .int .i64 0, .slice none 0 0, .slice none 0 0, .slice none 0 0, .int .i64 rm, .slice a3 I.length c3, .pointer none, .pointer none, .map (some M3), un] 97 (0, 0))) (hyZ : yb < Z.heap.size) (ho : Z.ownsRow X2s 4 1 (.slice a U.length c) U.length (flatA BoF U)) (hyW : W1.heap.size ≤ yb) (hb5 : Below W1.heap.size W1 Z) (hw : Below w.heap.size w W1) (hX2 : yb < X2s) :
    (w7.setCell ⟨yb, 10, none⟩ (.pointer (some ⟨sb, 0, none⟩))).heap[yb]? = some (.cells #[.slice a1 n1 c1, .int .i64 wt, .slice a U.length c, .int .i64 0, .int .i64 0, .slice none 0 0, .slice none 0 0, .slice none 0 0, .int .i64 rm, .slice a3 I.length c3, .pointer (some ⟨sb, 0, none⟩), .pointer none, .map (some M3), un] 97 (0, 0)) ∧ Stk w.heap.size (w7.setCell ⟨yb, 10, none⟩ (.pointer (some ⟨sb, 0, none⟩))) sb M 0 rm (.slice aI I.length cI) I ∧ (w7.setCell ⟨yb, 10, none⟩ (.pointer (some ⟨sb, 0, none⟩))).ownsRow w.heap.size 4 1 (.slice a U.length c) U.length (flatA BoF U) ∧ Below w.heap.size w (w7.setCell ⟨yb, 10, none⟩ (.pointer (some ⟨sb, 0, none⟩))) := by
  have s1 := hw.size
  have s2 := hb5.size
  refine ⟨heap_setCell_same _ yb 10 _ _ _ ((hb7.block yb hyZ).trans hr), (hst.stk.other hyZ).low (by omega), ?_, ?_⟩
  · refine itLow (itKept ho hb7) (by omega) fun g hg => ?_
    have := (ho.lt g hg).1
    exact Below.heap_setCell _ _ _ _ (by simp; omega)
  · exact ((hw.trans (hb5.mono s1)).trans (hb7.mono (by omega))).setCell (by simp; omega) _

set_option maxHeartbeats 3200000 in
set_option maxRecDepth 100000 in
theorem implNewYard (a1 : Option Addr) (n1 c1 : Nat) (wt : Int) (a2 : Option Addr) (c2 : Nat) (U : List Bool) (rm : Int) (a3 : Option Addr) (c3 : Nat) (I : List Itm) (w : World) (hU : RowA 1 BoF w (.slice a2 U.length c2) U) (hUl : U.length ≤ 4194304) (hI : ItAt w (.slice a3 I.length c3) I) (hb : itsBulk I ≤ 4194304) (hR : StoreRight rm I) (htab : w.cell? ⟨5, 15, none⟩ = some (.int .u8 4)) :
    Calls Tryz.prog 53 #[.agg #[.slice a1 n1 c1, .int .i64 wt, .slice a2 U.length c2, .int .i64 0, .int .i64 0, .slice none 0 0, .slice none 0 0, .slice none 0 0, .int .i64 rm, .slice a3 I.length c3]] w fun e w' => ∃ (yb : Nat) (a c : _) (sb M : Nat) (v dn un : _), e = .returned (.pointer (some ⟨yb, 0, none⟩)) ∧ w'.heap[yb]? = some (.cells (yardCells a1 n1 c1 wt a U.length c rm a3 I.length c3 (.pointer (some ⟨sb, 0, none⟩)) (.pointer none) dn un) 97 (0, 0)) ∧ w.heap.size ≤ yb ∧ w'.ownsRow w.heap.size 4 1 (.slice a U.length c) U.length (flatA BoF U) ∧ Stk w.heap.size w' sb M 0 rm v I ∧ Below w.heap.size w w' := by
  obtain ⟨W1, hW1⟩ : ∃ W1, W1 = w.alloc (.cells #[.slice a1 n1 c1, .int .i64 wt, .slice a2 U.length c2, .int .i64 0, .int .i64 0, .slice none 0 0, .slice none 0 0, .slice none 0 0, .int .i64 rm, .slice a3 I.length c3] 37) := ⟨_, rfl⟩
  have hb1 : Below w.heap.size w W1 := by rw [hW1]; exact (Below.refl _ _).alloc (Nat.le_refl _) _
  have hz1 : W1.heap.size = w.heap.size + 1 := by rw [hW1]; simp
  have hrow : W1.heap[w.heap.size]? = some (.cells #[.slice a1 n1 c1, .int .i64 wt, .slice a2 U.length c2, .int .i64 0, .int .i64 0, .slice none 0 0, .slice none 0 0, .slice none 0 0, .int .i64 rm, .slice a3 I.length c3] 37 (0, 0)) := by rw [hW1]; exact (MapKept.heap_alloc w _).1
  have HB : Hid (∀ X, Below W1.heap.size W1 X → TenR X w.heap.size (.slice a1 n1 c1) (.int .i64 wt) (.slice a2 U.length c2) (.int .i64 0) (.int .i64 0) (.slice none 0 0) (.slice none 0 0) (.slice none 0 0) (.int .i64 rm) (.slice a3 I.length c3) ∧ Below w.heap.size w X) := fun X hX => ⟨tenR_of ((hX.block w.heap.size (by omega)).trans hrow), hb1.trans (hX.mono (by omega))⟩
  have HDN : Hid (∀ X : World, _) := fun X => implDoneNames 0 (.slice none 0 0) [] X ⟨.inl ⟨rfl, none, 0, rfl⟩, fun _ h => (List.not_mem_nil h).elim⟩ (Nat.zero_le _)
  have HCL : Hid (∀ X, Below W1.heap.size W1 X → _) := fun X hX => slCloneBo (.slice a2 U.length c2) U X (hU.below (hb1.trans (hX.mono (by omega)))) hUl
  have HNS : Hid (∀ X, Below W1.heap.size W1 X → Calls Tryz.prog 76 #[.agg #[.int .i64 rm, .slice a3 I.length c3]] X fun e w' => (∃ sb M a c, e = .returned (.tuple #[.pointer (some ⟨sb, 0, none⟩), .bool true]) ∧ NewStock X.heap.size w' rm I I.length sb M a c) ∧ Below X.heap.size X w') := fun X hX => by
    have hx := hb1.trans (hX.mono (by omega))
    refine (implNewStock rm _ I X (hI.below hx) hb ((hx.cell (p := ⟨5, 15, none⟩) (World.block_lt_of_cell? w ⟨5, 15, none⟩ htab)).trans htab)).mono ?_
    rintro e w' ⟨h1, h2⟩
    rcases h2 with ⟨h2, _⟩ | ⟨_, h2⟩
    · exact absurd hR h2
    · exact ⟨h2, h1⟩
  have HWB : Hid (Below w.heap.size w W1) := hb1
  have hX1 : Below W1.heap.size W1 W1 := Below.refl _ _
  obtain ⟨⟨y0, y1, y2, y3, y4, y5, y6, y7, y8, y9⟩, _⟩ := HB.out _ hX1
  have hmm := @run_makeMap Tryz.prog
  clear hU hI hb hR htab hrow
  go_enter Tryz.func53, Tryz.ntmps53
  go_wp2_with fail
  rw [← hW1]
  clear hW1
  have hQ0 : TenR W1 w.heap.size (.slice a1 n1 c1) (.int .i64 wt) (.slice a2 U.length c2) (.int .i64 0) (.int .i64 0) (.slice none 0 0) (.slice none 0 0) (.slice none 0 0) (.int .i64 rm) (.slice a3 I.length c3) := ⟨y0, y1, y2, y3, y4, y5, y6, y7, y8, y9⟩
  go_region_held3 (fun w' => w'.cell? ⟨w.heap.size, 0, none⟩ = some (.slice a1 n1 c1) ∧ w'.cell? ⟨w.heap.size, 1, none⟩ = some (.int .i64 wt) ∧ w'.cell? ⟨w.heap.size, 2, none⟩ = some (.slice a2 U.length c2) ∧ w'.cell? ⟨w.heap.size, 3, none⟩ = some (.int .i64 0) ∧ w'.cell? ⟨w.heap.size, 4, none⟩ = some (.int .i64 0) ∧ w'.cell? ⟨w.heap.size, 5, none⟩ = some (.slice none 0 0) ∧ w'.cell? ⟨w.heap.size, 6, none⟩ = some (.slice none 0 0) ∧ w'.cell? ⟨w.heap.size, 7, none⟩ = some (.slice none 0 0) ∧ w'.cell? ⟨w.heap.size, 8, none⟩ = some (.int .i64 rm) ∧ w'.cell? ⟨w.heap.size, 9, none⟩ = some (.slice a3 I.length c3))
    (first
      | exact hQ0
      | exact (HB.out _ (Below.refl _ _).drew).1
      | exact (HB.out _ ((Below.refl _ _).alloc (Nat.le_refl _) _).drew).1
      | exact (HB.out _ (by assumption)).1
      | exact (HB.out _ (Below.alloc (by assumption) (Below.size (by assumption)) _)).1
      | exact (HB.out _ (Below.alloc (Below.alloc (by assumption) (Below.size (by assumption)) _) (Nat.le_trans (Below.size (by assumption)) (by simp)) _)).1)
    (first | (go_at_call 77; refine (HDN.out _).mono ?_; rintro e w3 ⟨M3, D3, rfl, hM3, hD3, hb3⟩; have hX3 : Below W1.heap.size W1 w3 := (by first | exact (Below.refl _ _).drew.trans hb3 | exact (((Below.refl W1.heap.size W1).alloc (Nat.le_refl _) _).drew).trans (hb3.mono (by simp)))))
  all_goals
    first
      | (obtain ⟨un, hun⟩ : ∃ un : Value, un = .map (some (w.heap.size + 1)) := ⟨_, rfl⟩
         rw [← hun]
         have hyr : (w3.alloc (.cells #[.slice a1 n1 c1, .int .i64 wt, .slice a2 U.length c2, .int .i64 0, .int .i64 0, .slice none 0 0, .slice none 0 0, .slice none 0 0, .int .i64 rm, .slice a3 I.length c3, .pointer none, .pointer none, .map (some M3), un] 97)).heap[w3.heap.size]? = some (.cells #[.slice a1 n1 c1, .int .i64 wt, .slice a2 U.length c2, .int .i64 0, .int .i64 0, .slice none 0 0, .slice none 0 0, .slice none 0 0, .int .i64 rm, .slice a3 I.length c3, .pointer none, .pointer none, .map (some M3), un] 97 (0, 0)) := (MapKept.heap_alloc w3 _).1
         have hyW : W1.heap.size ≤ w3.heap.size := hX3.size
         have hyb : Below W1.heap.size W1 (w3.alloc (.cells #[.slice a1 n1 c1, .int .i64 wt, .slice a2 U.length c2, .int .i64 0, .int .i64 0, .slice none 0 0, .slice none 0 0, .slice none 0 0, .int .i64 rm, .slice a3 I.length c3, .pointer none, .pointer none, .map (some M3), un] 97)) := hX3.alloc hX3.size _
         clear hun
         generalize (w3.alloc (.cells #[.slice a1 n1 c1, .int .i64 wt, .slice a2 U.length c2, .int .i64 0, .int .i64 0, .slice none 0 0, .slice none 0 0, .slice none 0 0, .int .i64 rm, .slice a3 I.length c3, .pointer none, .pointer none, .map (some M3), un] 97)) = X2 at *
         generalize w3.heap.size = yb at *)
      | (obtain ⟨un, hun⟩ : ∃ un : Value, un = .map (some w3.heap.size) := ⟨_, rfl⟩
         rw [← hun]
         have hyr : ((w3.alloc (.map #[] 0)).alloc (.cells #[.slice a1 n1 c1, .int .i64 wt, .slice a2 U.length c2, .int .i64 0, .int .i64 0, .slice none 0 0, .slice none 0 0, .slice none 0 0, .int .i64 rm, .slice a3 I.length c3, .pointer none, .pointer none, .map (some M3), un] 97)).heap[w3.heap.size + 1]? = some (.cells #[.slice a1 n1 c1, .int .i64 wt, .slice a2 U.length c2, .int .i64 0, .int .i64 0, .slice none 0 0, .slice none 0 0, .slice none 0 0, .int .i64 rm, .slice a3 I.length c3, .pointer none, .pointer none, .map (some M3), un] 97 (0, 0)) := by
           have := (MapKept.heap_alloc (w3.alloc (.map #[] 0)) (.cells #[.slice a1 n1 c1, .int .i64 wt, .slice a2 U.length c2, .int .i64 0, .int .i64 0, .slice none 0 0, .slice none 0 0, .slice none 0 0, .int .i64 rm, .slice a3 I.length c3, .pointer none, .pointer none, .map (some M3), un] 97)).1
           rwa [show (w3.alloc (.map #[] 0)).heap.size = w3.heap.size + 1 from by simp] at this
         have hyW : W1.heap.size ≤ w3.heap.size + 1 := Nat.le_trans hX3.size (by omega)
         have hyb : Below W1.heap.size W1 ((w3.alloc (.map #[] 0)).alloc (.cells #[.slice a1 n1 c1, .int .i64 wt, .slice a2 U.length c2, .int .i64 0, .int .i64 0, .slice none 0 0, .slice none 0 0, .slice none 0 0, .int .i64 rm, .slice a3 I.length c3, .pointer none, .pointer none, .map (some M3), un] 97)) := (hX3.alloc hX3.size _).alloc (by simp; exact Nat.le_trans hX3.size (by omega)) _
         clear hun
         generalize ((w3.alloc (.map #[] 0)).alloc (.cells #[.slice a1 n1 c1, .int .i64 wt, .slice a2 U.length c2, .int .i64 0, .int .i64 0, .slice none 0 0, .slice none 0 0, .slice none 0 0, .int .i64 rm, .slice a3 I.length c3, .pointer none, .pointer none, .map (some M3), un] 97)) = X2 at *
         generalize w3.heap.size + 1 = yb at *)
    have hne : yb ≠ w.heap.size := by omega
    have hyl : yb < X2.heap.size := (Array.getElem?_eq_some_iff.1 hyr).1
    have HB2 : Hid (∀ X, Below X2.heap.size X2 X → TenR X w.heap.size (.slice a1 n1 c1) (.int .i64 wt) (.slice a2 U.length c2) (.int .i64 0) (.int .i64 0) (.slice none 0 0) (.slice none 0 0) (.slice none 0 0) (.int .i64 rm) (.slice a3 I.length c3) ∧ X.heap[yb]? = some (.cells #[.slice a1 n1 c1, .int .i64 wt, .slice a2 U.length c2, .int .i64 0, .int .i64 0, .slice none 0 0, .slice none 0 0, .slice none 0 0, .int .i64 rm, .slice a3 I.length c3, .pointer none, .pointer none, .map (some M3), un] 97 (0, 0)) ∧ Below W1.heap.size W1 X) := fun X hX => ⟨(HB.out X (hyb.trans (hX.mono hyb.size))).1, (hX.block yb hyl).trans hyr, hyb.trans (hX.mono hyb.size)⟩
    have HTS : Hid (∀ (X : World) (i : Nat) (u : Value), TenR X w.heap.size (.slice a1 n1 c1) (.int .i64 wt) (.slice a2 U.length c2) (.int .i64 0) (.int .i64 0) (.slice none 0 0) (.slice none 0 0) (.slice none 0 0) (.int .i64 rm) (.slice a3 I.length c3) → TenR (X.setCell ⟨yb, i, none⟩ u) w.heap.size (.slice a1 n1 c1) (.int .i64 wt) (.slice a2 U.length c2) (.int .i64 0) (.int .i64 0) (.slice none 0 0) (.slice none 0 0) (.slice none 0 0) (.int .i64 rm) (.slice a3 I.length c3)) := fun X i u h => by
      obtain ⟨h0, h1, h2, h3, h4, h5, h6, h7, h8, h9⟩ := h
      have hnn : ∀ j : Nat, (⟨yb, i, none⟩ : Addr) ≠ ⟨w.heap.size, j, none⟩ := fun j e => by
        simp only [Addr.mk.injEq, and_true] at e
        exact hne e.1
      exact ⟨by rw [World.cell?_setCell_other _ _ _ _ (hnn 0)]; exact h0, by rw [World.cell?_setCell_other _ _ _ _ (hnn 1)]; exact h1, by rw [World.cell?_setCell_other _ _ _ _ (hnn 2)]; exact h2, by rw [World.cell?_setCell_other _ _ _ _ (hnn 3)]; exact h3, by rw [World.cell?_setCell_other _ _ _ _ (hnn 4)]; exact h4, by rw [World.cell?_setCell_other _ _ _ _ (hnn 5)]; exact h5, by rw [World.cell?_setCell_other _ _ _ _ (hnn 6)]; exact h6, by rw [World.cell?_setCell_other _ _ _ _ (hnn 7)]; exact h7, by rw [World.cell?_setCell_other _ _ _ _ (hnn 8)]; exact h8, by rw [World.cell?_setCell_other _ _ _ _ (hnn 9)]; exact h9⟩
    have HCL2 : Hid (∀ X, Below X2.heap.size X2 X → _) := fun X hX => HCL.out X (hyb.trans (hX.mono hyb.size))
    have HPT : Hid (∀ (w5 : World) (a : Option Addr) (c : Nat), Below X2.heap.size X2 w5 → w5.ownsRow X2.heap.size 4 1 (.slice a U.length c) U.length (flatA BoF U) → ((((w5.setCell ⟨yb, 2, none⟩ (.slice a U.length c)).setCell ⟨yb, 5, none⟩ (.slice none 0 0)).setCell ⟨yb, 6, none⟩ (.slice none 0 0)).setCell ⟨yb, 7, none⟩ (.slice none 0 0)).heap[yb]? = some (.cells #[.slice a1 n1 c1, .int .i64 wt, .slice a U.length c, .int .i64 0, .int .i64 0, .slice none 0 0, .slice none 0 0, .slice none 0 0, .int .i64 rm, .slice a3 I.length c3, .pointer none, .pointer none, .map (some M3), un] 97 (0, 0)) ∧ Below W1.heap.size W1 ((((w5.setCell ⟨yb, 2, none⟩ (.slice a U.length c)).setCell ⟨yb, 5, none⟩ (.slice none 0 0)).setCell ⟨yb, 6, none⟩ (.slice none 0 0)).setCell ⟨yb, 7, none⟩ (.slice none 0 0)) ∧ ((((w5.setCell ⟨yb, 2, none⟩ (.slice a U.length c)).setCell ⟨yb, 5, none⟩ (.slice none 0 0)).setCell ⟨yb, 6, none⟩ (.slice none 0 0)).setCell ⟨yb, 7, none⟩ (.slice none 0 0)).ownsRow X2.heap.size 4 1 (.slice a U.length c) U.length (flatA BoF U) ∧ TenR ((((w5.setCell ⟨yb, 2, none⟩ (.slice a U.length c)).setCell ⟨yb, 5, none⟩ (.slice none 0 0)).setCell ⟨yb, 6, none⟩ (.slice none 0 0)).setCell ⟨yb, 7, none⟩ (.slice none 0 0)) w.heap.size (.slice a1 n1 c1) (.int .i64 wt) (.slice a2 U.length c2) (.int .i64 0) (.int .i64 0) (.slice none 0 0) (.slice none 0 0) (.slice none 0 0) (.int .i64 rm) (.slice a3 I.length c3)) := fun w5 a c hw ho => by
      obtain ⟨t5, r5, b5⟩ := HB2.out w5 hw
      refine ⟨heap_setCell_same _ yb 7 _ _ _ (heap_setCell_same _ yb 6 _ _ _ (heap_setCell_same _ yb 5 _ _ _ (heap_setCell_same _ yb 2 _ _ _ r5))), (((b5.setCell hyW _).setCell hyW _).setCell hyW _).setCell hyW _, ?_, HTS.out _ _ _ (HTS.out _ _ _ (HTS.out _ _ _ (HTS.out _ _ _ t5)))⟩
      refine itLow ho (Nat.le_refl _) fun g hg => ?_
      have := (ho.lt g hg).1
      rw [Below.heap_setCell _ _ _ _ (by simp; omega), Below.heap_setCell _ _ _ _ (by simp; omega), Below.heap_setCell _ _ _ _ (by simp; omega), Below.heap_setCell _ _ _ _ (by simp; omega)]
    obtain ⟨hQ2, _, _⟩ := HB2.out X2 (Below.refl _ _)
    clear hQ0 y0 y1 y2 y3 y4 y5 y6 y7 y8 y9 hX3 hb3 hM3 hD3 HDN HCL HB hX1 hyr
    go_wp2_with fail
    go_region_held3 (fun w' => w'.cell? ⟨w.heap.size, 0, none⟩ = some (.slice a1 n1 c1) ∧ w'.cell? ⟨w.heap.size, 1, none⟩ = some (.int .i64 wt) ∧ w'.cell? ⟨w.heap.size, 2, none⟩ = some (.slice a2 U.length c2) ∧ w'.cell? ⟨w.heap.size, 3, none⟩ = some (.int .i64 0) ∧ w'.cell? ⟨w.heap.size, 4, none⟩ = some (.int .i64 0) ∧ w'.cell? ⟨w.heap.size, 5, none⟩ = some (.slice none 0 0) ∧ w'.cell? ⟨w.heap.size, 6, none⟩ = some (.slice none 0 0) ∧ w'.cell? ⟨w.heap.size, 7, none⟩ = some (.slice none 0 0) ∧ w'.cell? ⟨w.heap.size, 8, none⟩ = some (.int .i64 rm) ∧ w'.cell? ⟨w.heap.size, 9, none⟩ = some (.slice a3 I.length c3))
      (first
        | exact hQ2
        | exact (HB2.out _ (Below.refl _ _).drew).1
        | exact (HB2.out _ (by assumption)).1
        | (revert hw5; intro hw5; exact HTS.out _ _ _ (HB2.out _ hw5).1)
        | (revert hw5; intro hw5; exact HTS.out _ _ _ (HTS.out _ _ _ (HB2.out _ hw5).1))
        | (revert hw5; intro hw5; exact HTS.out _ _ _ (HTS.out _ _ _ (HTS.out _ _ _ (HB2.out _ hw5).1)))
        | (revert hw5; intro hw5; exact HTS.out _ _ _ (HTS.out _ _ _ (HTS.out _ _ _ (HTS.out _ _ _ (HB2.out _ hw5).1)))))
      (first
        | (go_at_call 78; refine (HCL2.out _ (by first | exact (Below.refl _ _).drew | exact Below.refl _ _)).mono ?_; rintro e w5 ⟨a, c, rfl, ho5, hb5⟩; have hw5 : Below X2.heap.size X2 w5 := (by first | exact (Below.refl _ _).drew.trans hb5 | exact hb5); obtain ⟨_, hr5, _⟩ := HB2.out w5 hw5; have q2 := cell_of_row _ _ 2 _ _ (0, 0) hr5; have q5 := cell_of_row _ _ 5 _ _ (0, 0) hr5; have q6 := cell_of_row _ _ 6 _ _ (0, 0) hr5; have q7 := cell_of_row _ _ 7 _ _ (0, 0) hr5; have f2 := frozen_of_row _ _ 2 _ _ hr5; have f5 := frozen_of_row _ _ 5 _ _ hr5; have f6 := frozen_of_row _ _ 6 _ _ hr5; have f7 := frozen_of_row _ _ 7 _ _ hr5)
        | (go_at_call 79; refine (slCloneLe _).mono ?_; rintro e w6 ⟨rfl, hw6⟩; rw [hw6]; clear hw6)
        | (go_at_call 80; refine (slCloneRs _).mono ?_; rintro e w6 ⟨rfl, hw6⟩; rw [hw6]; clear hw6)
        | (go_at_call 81; refine (slClonePa _).mono ?_; rintro e w6 ⟨rfl, hw6⟩; rw [hw6]; clear hw6))
    all_goals
      obtain ⟨r5, b5, o5, t5⟩ := HPT.out w5 a c hw5 ho5
      generalize ((((w5.setCell ⟨yb, 2, none⟩ (.slice a U.length c)).setCell ⟨yb, 5, none⟩ (.slice none 0 0)).setCell ⟨yb, 6, none⟩ (.slice none 0 0)).setCell ⟨yb, 7, none⟩ (.slice none 0 0)) = Z at *
      clear HPT HTS HB2 HCL2 hQ2 hw5 ho5 hr5 q2 q5 q6 q7 f2 f5 f6 f7 hb5
      obtain ⟨z0, z1, z2, z3, z4, z5, z6, z7, z8, z9⟩ := t5
      have hyZ : yb < Z.heap.size := (Array.getElem?_eq_some_iff.1 r5).1
      have HW1 : Hid (Below w.heap.size w W1) := HWB.out
      have HO5 : Hid (type_of% o5) := o5
      have HR5 : Hid (type_of% r5) := r5
      have HB5 : Hid (type_of% b5) := b5
      have HTEN : Hid (∀ X, Below Z.heap.size Z X → TenR X w.heap.size (.slice a1 n1 c1) (.int .i64 wt) (.slice a2 U.length c2) (.int .i64 0) (.int .i64 0) (.slice none 0 0) (.slice none 0 0) (.slice none 0 0) (.int .i64 rm) (.slice a3 I.length c3)) := fun X hX => by
        have hlt : w.heap.size < Z.heap.size := by omega
        exact ⟨(hX.cell (p := ⟨w.heap.size, 0, none⟩) hlt).trans z0, (hX.cell (p := ⟨w.heap.size, 1, none⟩) hlt).trans z1, (hX.cell (p := ⟨w.heap.size, 2, none⟩) hlt).trans z2, (hX.cell (p := ⟨w.heap.size, 3, none⟩) hlt).trans z3, (hX.cell (p := ⟨w.heap.size, 4, none⟩) hlt).trans z4, (hX.cell (p := ⟨w.heap.size, 5, none⟩) hlt).trans z5, (hX.cell (p := ⟨w.heap.size, 6, none⟩) hlt).trans z6, (hX.cell (p := ⟨w.heap.size, 7, none⟩) hlt).trans z7, (hX.cell (p := ⟨w.heap.size, 8, none⟩) hlt).trans z8, (hX.cell (p := ⟨w.heap.size, 9, none⟩) hlt).trans z9⟩
      clear r5 o5
      go_wp2_with (go_at_call 76; refine (HNS.out Z b5).mono ?_; rintro e w7 ⟨⟨sb, M, aI, cI, rfl, hst⟩, hb7⟩; have r7 := (hb7.block yb hyZ).trans HR5.out; have q10 := cell_of_row _ _ 10 _ _ (0, 0) r7; have f10 := frozen_of_row _ _ 10 _ _ r7; have hfin : Hid ((w7.setCell ⟨yb, 10, none⟩ (.pointer (some ⟨sb, 0, none⟩))).heap[yb]? = some (.cells #[.slice a1 n1 c1, .int .i64 wt, .slice a U.length c, .int .i64 0, .int .i64 0, .slice none 0 0, .slice none 0 0, .slice none 0 0, .int .i64 rm, .slice a3 I.length c3, .pointer (some ⟨sb, 0, none⟩), .pointer none, .map (some M3), un] 97 (0, 0)) ∧ Stk w.heap.size (w7.setCell ⟨yb, 10, none⟩ (.pointer (some ⟨sb, 0, none⟩))) sb M 0 rm (.slice aI I.length cI) I ∧ (w7.setCell ⟨yb, 10, none⟩ (.pointer (some ⟨sb, 0, none⟩))).ownsRow w.heap.size 4 1 (.slice a U.length c) U.length (flatA BoF U) ∧ Below w.heap.size w (w7.setCell ⟨yb, 10, none⟩ (.pointer (some ⟨sb, 0, none⟩)))) := yard_end hst hb7 HR5.out hyZ HO5.out hyW HB5.out HW1.out hyl; have t10 : (w7.setCell ⟨yb, 10, none⟩ (.pointer (some ⟨sb, 0, none⟩))).cell? ⟨w.heap.size, 5, none⟩ = some (.slice none 0 0) := (by rw [World.cell?_setCell_other _ _ _ _ (fun e => by simp only [Addr.mk.injEq] at e; omega)]; exact (HTEN.out w7 hb7).2.2.2.2.2.1))
      refine wp_loop_rounds 1 ?_
      rw [rounds_succ]
      go_wp2_with fail
      go_ret
      exact ⟨yb, a, c, sb, M, _, _, _, rfl, hfin.out.1, by omega, hfin.out.2.2.1, hfin.out.2.1, hfin.out.2.2.2⟩

end Go.Proofs.YtllbfbllkefjeaaGreatDoor

/-
  The walks of the laws' own helpers toExp, toExpS, toDef, toDefS and toModule: copies in new memory, which hold whatever becomes of what was there.
-/
import Derived.Test.YtegdladpkikicaaXpD
import Derived.Test.YtegdladpkikicaaToTy
namespace Go.Proofs.Ytegdladpkikicaa
open Go.RowKit

/-- what holds in every world that has these blocks as they are -/
def KpX (B : Nat) (X : World) (P : World → Prop) : Prop := ∀ F, Above B X F → P F
theorem KpX.step {B : Nat} {X Y : World} {P : World → Prop} (h : KpX B X P) (ha : Above B X Y) : KpX B Y P := fun F hF => h F (ha.trans hF)
/-- the state of such a walk: the argument's box, the answer's, the one that is filled -/
structure ToB (w X : World) (TL TI : TypeId) (A Z row : Array Value) : Prop where
  bel : Below w.heap.size w X
  arg : X.heap[w.heap.size]? = some (.cells A TL (0, 0))
  res : X.heap[w.heap.size + 1]? = some (.cells Z TI (0, 0))
  out : X.heap[w.heap.size + 1 + 1]? = some (.cells row TI (0, 0))
theorem ToB.size {w X : World} {TL TI : TypeId} {A Z row : Array Value} (h : ToB w X TL TI A Z row) : w.heap.size + 1 + 1 < X.heap.size := (Array.getElem?_eq_some_iff.1 h.out).1
theorem ToB.call {w X Y : World} {TL TI : TypeId} {A Z row : Array Value} (h : ToB w X TL TI A Z row) (hb : Below X.heap.size X Y) : ToB w Y TL TI A Z row := by
  have := h.size
  exact ⟨h.bel.trans (hb.mono h.bel.size), (hb.block _ (by omega)).trans h.arg, (hb.block _ (by omega)).trans h.res, (hb.block _ (by omega)).trans h.out⟩
theorem ToB.set {w X : World} {TL TI : TypeId} {A Z row row' : Array Value} (h : ToB w X TL TI A Z row) (i : Nat) (u : Value) (hr : (X.setCell ⟨w.heap.size + 1 + 1, i, none⟩ u).heap[w.heap.size + 1 + 1]? = some (.cells row' TI (0, 0))) : ToB w (X.setCell ⟨w.heap.size + 1 + 1, i, none⟩ u) TL TI A Z row' :=
  ⟨h.bel.setCell (by simp; omega) _, (Below.heap_setCell _ _ _ _ (by simp; omega)).trans h.arg, (Below.heap_setCell _ _ _ _ (by simp)).trans h.res, hr⟩
theorem ToB.start {w : World} {TL TI : TypeId} {A Z row : Array Value} : ToB w (((w.alloc (.cells A TL)).alloc (.cells Z TI)).alloc (.cells row TI)) TL TI A Z row := by
  refine ⟨(((Below.refl _ _).alloc (Nat.le_refl _) _).alloc (by simp) _).alloc (by simp; omega) _, ?_, ?_, ?_⟩
  · rw [Below.heap_alloc _ _ _ (by simp; omega), Below.heap_alloc _ _ _ (by simp)]
    exact (MapKept.heap_alloc w _).1
  · rw [Below.heap_alloc _ _ _ (by simp)]
    have := (MapKept.heap_alloc (w.alloc (.cells A TL)) (.cells Z TI)).1
    simpa using this
  · have := (MapKept.heap_alloc ((w.alloc (.cells A TL)).alloc (.cells Z TI)) (.cells row TI)).1
    simpa using this
/-- cells stored one behind the other -/
def putL (X : World) (b : Nat) : Nat → List Value → World
  | _, [] => X
  | i, v :: r => putL (X.setCell ⟨b, i, none⟩ v) b (i + 1) r
theorem putL_below {X w : World} {B b i : Nat} {l : List Value} (h : Below B w X) (hb : B ≤ b) : Below B w (putL X b i l) := by
  induction l generalizing X i with
  | nil => exact h
  | cons v r ih => exact ih (h.setCell hb _)
theorem putL_above {X : World} {B b i : Nat} {l : List Value} (hb : b < B) : Above B X (putL X b i l) := by
  induction l generalizing X i with
  | nil => exact Above.refl _ _
  | cons v r ih => exact (Above.set _ _ _ hb).trans ih
theorem putL_rowi {b : Nat} {t : TypeId} : ∀ (l : List Value) (X : World) (i : Nat) (cs : Array Value), X.heap[b]? = some (.cells cs t (0, 0)) → cs.size = i + l.length → (putL X b i l).heap[b]? = some (.cells (cs.toList.take i ++ l).toArray t (0, 0)) := by
  intro l
  induction l with
  | nil =>
    intro X i cs h hz
    have e : cs.toList.take i = cs.toList := List.take_of_length_le (by simp at hz ⊢; omega)
    rw [e, List.append_nil]
    exact h
  | cons v r ih =>
    intro X i cs h hz
    simp only [List.length_cons] at hz
    have h2 := ih (X.setCell ⟨b, i, none⟩ v) (i + 1) (cs.setIfInBounds i v) (heap_setCell_same _ _ i _ _ _ h) (by simp; omega)
    refine h2.trans ?_
    congr 2
    have hi : i < cs.toList.length := by simp; omega
    rw [Array.toList_setIfInBounds, List.take_succ_eq_append_getElem (by simpa using hi), List.take_set_of_le (Nat.le_refl _), List.getElem_set_self, List.append_assoc]
    rfl
theorem putL_row {X : World} {b : Nat} {t : TypeId} {l : List Value} {cs : Array Value} (h : X.heap[b]? = some (.cells cs t (0, 0))) (hz : cs.size = l.length) : (putL X b 0 l).heap[b]? = some (.cells l.toArray t (0, 0)) := by
  have := putL_rowi l X 0 cs h (by omega)
  simpa using this

theorem ret_toExpC {R : Ending → World → Prop} {W : World} {tmps : Array Value} {b : Nat} {t : TypeId} {x0 x1 x2 x3 x4 x5 : Value} (hp : tmps[2]?.getD undef = .pointer (some ⟨b, 0, none⟩)) (h : W.heap[b]? = some (.cells #[x0, x1, x2, x3, x4, x5] t (0, 0))) (hR : R (.returned (.agg #[x0, x1, x2, x3, x4, x5])) W) :
    bodyPost Try.prog Try.f31 R .ret { tmps := tmps, defers := [] } W := by
  have h0 : W.cell? ⟨b, 0, none⟩ = some x0 := by rw [cell_of_row _ _ 0 _ _ (0, 0) h]; rfl
  have h1 : W.cell? ⟨b, 1, none⟩ = some x1 := by rw [cell_of_row _ _ 1 _ _ (0, 0) h]; rfl
  have h2 : W.cell? ⟨b, 2, none⟩ = some x2 := by rw [cell_of_row _ _ 2 _ _ (0, 0) h]; rfl
  have h3 : W.cell? ⟨b, 3, none⟩ = some x3 := by rw [cell_of_row _ _ 3 _ _ (0, 0) h]; rfl
  have h4 : W.cell? ⟨b, 4, none⟩ = some x4 := by rw [cell_of_row _ _ 4 _ _ (0, 0) h]; rfl
  have h5 : W.cell? ⟨b, 5, none⟩ = some x5 := by rw [cell_of_row _ _ 5 _ _ (0, 0) h]; rfl
  refine bodyPost_ret (v := .agg #[x0, x1, x2, x3, x4, x5]) ?_ rfl hR
  simp [results, Try.results31, go_sem, hp, h0, h1, h2, h3, h4, h5]
set_option maxHeartbeats 3200000 in
set_option maxRecDepth 100000 in
theorem toExpC (kd nn ln : Int) (tx : ByteArray) (m0 m1 : Nat) (vn vk : Value) (P0 P1 : World → Value → Prop) (w : World)
    (C0 : ∀ X : World, Below w.heap.size w X → Calls Try.prog 14 #[vn] X fun e w' => e = .returned (.slice (some ⟨X.heap.size, 0, none⟩) m0 m0) ∧ (∀ F, Above X.heap.size w' F → P0 F (.slice (some ⟨X.heap.size, 0, none⟩) m0 m0)) ∧ Below X.heap.size X w')
    (C1 : ∀ X : World, Below w.heap.size w X → Calls Try.prog 42 #[vk] X fun e w' => e = .returned (.slice (some ⟨X.heap.size, 0, none⟩) m1 m1) ∧ (∀ F, Above X.heap.size w' F → P1 F (.slice (some ⟨X.heap.size, 0, none⟩) m1 m1)) ∧ Below X.heap.size X w') :
    Calls Try.prog 31 #[.agg #[.int .i64 kd, .string tx, .int .i64 nn, .int .i64 ln, vn, vk]] w fun e w' => ∃ (g0 : Nat) (g1 : Nat), e = .returned (.agg #[.int .i64 kd, .string tx, .int .i64 nn, .int .i64 ln, .slice (some ⟨g0, 0, none⟩) m0 m0, .slice (some ⟨g1, 0, none⟩) m1 m1]) ∧ (∀ F, Above w.heap.size w' F → P0 F (.slice (some ⟨g0, 0, none⟩) m0 m0) ∧ P1 F (.slice (some ⟨g1, 0, none⟩) m1 m1)) ∧ Below w.heap.size w w' := by
  have hT0 : ToB w (((w.alloc (.cells #[.int .i64 kd, .string tx, .int .i64 nn, .int .i64 ln, vn, vk] 57)).alloc (.cells #[.int .i64 0, .string ⟨#[]⟩, .int .i64 0, .int .i64 0, .slice none 0 0, .slice none 0 0] 41)).alloc (.cells #[.int .i64 kd, .string tx, .int .i64 nn, .int .i64 ln, .slice none 0 0, .slice none 0 0] 41)) 57 41 #[.int .i64 kd, .string tx, .int .i64 nn, .int .i64 ln, vn, vk] #[.int .i64 0, .string ⟨#[]⟩, .int .i64 0, .int .i64 0, .slice none 0 0, .slice none 0 0] #[.int .i64 kd, .string tx, .int .i64 nn, .int .i64 ln, .slice none 0 0, .slice none 0 0] := ToB.start
  have D0 : Hid (type_of% C0) := C0
  have D1 : Hid (type_of% C1) := C1
  clear C0 C1
  go_enter Try.func31, Try.ntmps31
  go_wp2_with fail
  generalize (((w.alloc (.cells #[.int .i64 kd, .string tx, .int .i64 nn, .int .i64 ln, vn, vk] 57)).alloc (.cells #[.int .i64 0, .string ⟨#[]⟩, .int .i64 0, .int .i64 0, .slice none 0 0, .slice none 0 0] 41)).alloc (.cells #[.int .i64 kd, .string tx, .int .i64 nn, .int .i64 ln, .slice none 0 0, .slice none 0 0] 41)) = X0 at *
  refine (D0.out _ hT0.bel).mono ?_
  rintro e Y0 ⟨rfl, hk0, hb0⟩
  obtain ⟨g0, hg0⟩ : ∃ g, g = X0.heap.size := ⟨_, rfl⟩
  have hl0 : (w.heap.size + 1 + 1 + 1) ≤ g0 := by have := hT0.size; omega
  rw [← hg0] at hk0 ⊢
  have K0 : KpX (w.heap.size + 1 + 1 + 1) Y0 fun F => P0 F (.slice (some ⟨g0, 0, none⟩) m0 m0) := fun F hF => hk0 F (hF.mono hl0)
  clear hk0 hg0
  have hU0_0 := hT0.call hb0
  have st0_4 : Y0.cell? ⟨w.heap.size + 1 + 1, 4, none⟩ = some (.slice none 0 0) := by rw [cell_of_row _ _ 4 _ _ (0, 0) hU0_0.out]; rfl
  have sf0_4 : Y0.frozen? ⟨w.heap.size + 1 + 1, 4, none⟩ = false := frozen_of_row _ _ 4 _ _ hU0_0.out
  have hU0_1 : ToB w (Y0.setCell ⟨w.heap.size + 1 + 1, 4, none⟩ (.slice (some ⟨g0, 0, none⟩) m0 m0)) 57 41 #[.int .i64 kd, .string tx, .int .i64 nn, .int .i64 ln, vn, vk] #[.int .i64 0, .string ⟨#[]⟩, .int .i64 0, .int .i64 0, .slice none 0 0, .slice none 0 0] #[.int .i64 kd, .string tx, .int .i64 nn, .int .i64 ln, .slice (some ⟨g0, 0, none⟩) m0 m0, .slice none 0 0] := hU0_0.set 4 _ (heap_setCell_same _ _ 4 _ _ _ hU0_0.out)
  have ab0 : Above (w.heap.size + 1 + 1 + 1) Y0 (Y0.setCell ⟨w.heap.size + 1 + 1, 4, none⟩ (.slice (some ⟨g0, 0, none⟩) m0 m0)) := by
    exact (Above.trans (Above.refl _ _) (Above.set _ _ _ (by show w.heap.size + 1 + 1 < _; omega)))
  have L0 : Hid (type_of% (K0.step ab0)) := K0.step ab0
  have HV : Hid (type_of% hU0_1) := hU0_1
  have ld0_5 : (Y0.setCell ⟨w.heap.size + 1 + 1, 4, none⟩ (.slice (some ⟨g0, 0, none⟩) m0 m0)).cell? ⟨w.heap.size, 5, none⟩ = some (vk) := by rw [cell_of_row _ _ 5 _ _ (0, 0) hU0_1.arg]; rfl
  clear K0 ab0 hb0 hT0 D0 hU0_0 hU0_1 hl0
  go_wp2_with fail
  clear st0_4 sf0_4 ld0_5
  generalize (Y0.setCell ⟨w.heap.size + 1 + 1, 4, none⟩ (.slice (some ⟨g0, 0, none⟩) m0 m0)) = X1 at *
  have hT1 := HV.out
  have K0 := L0.out
  clear HV L0
  refine (D1.out _ hT1.bel).mono ?_
  rintro e Y1 ⟨rfl, hk1, hb1⟩
  obtain ⟨g1, hg1⟩ : ∃ g, g = X1.heap.size := ⟨_, rfl⟩
  have hl1 : (w.heap.size + 1 + 1 + 1) ≤ g1 := by have := hT1.size; omega
  rw [← hg1] at hk1 ⊢
  have K1 : KpX (w.heap.size + 1 + 1 + 1) Y1 fun F => P1 F (.slice (some ⟨g1, 0, none⟩) m1 m1) := fun F hF => hk1 F (hF.mono hl1)
  clear hk1 hg1
  have K0y := K0.step (Above.of_below (B := (w.heap.size + 1 + 1 + 1)) hb1)
  have hU1_0 := hT1.call hb1
  have st1_5 : Y1.cell? ⟨w.heap.size + 1 + 1, 5, none⟩ = some (.slice none 0 0) := by rw [cell_of_row _ _ 5 _ _ (0, 0) hU1_0.out]; rfl
  have sf1_5 : Y1.frozen? ⟨w.heap.size + 1 + 1, 5, none⟩ = false := frozen_of_row _ _ 5 _ _ hU1_0.out
  have hU1_1 : ToB w (Y1.setCell ⟨w.heap.size + 1 + 1, 5, none⟩ (.slice (some ⟨g1, 0, none⟩) m1 m1)) 57 41 #[.int .i64 kd, .string tx, .int .i64 nn, .int .i64 ln, vn, vk] #[.int .i64 0, .string ⟨#[]⟩, .int .i64 0, .int .i64 0, .slice none 0 0, .slice none 0 0] #[.int .i64 kd, .string tx, .int .i64 nn, .int .i64 ln, .slice (some ⟨g0, 0, none⟩) m0 m0, .slice (some ⟨g1, 0, none⟩) m1 m1] := hU1_0.set 5 _ (heap_setCell_same _ _ 5 _ _ _ hU1_0.out)
  have ab1 : Above (w.heap.size + 1 + 1 + 1) Y1 (Y1.setCell ⟨w.heap.size + 1 + 1, 5, none⟩ (.slice (some ⟨g1, 0, none⟩) m1 m1)) := by
    exact (Above.trans (Above.refl _ _) (Above.set _ _ _ (by show w.heap.size + 1 + 1 < _; omega)))
  have L0 : Hid (type_of% (K0y.step ab1)) := K0y.step ab1
  have L1 : Hid (type_of% (K1.step ab1)) := K1.step ab1
  have HV : Hid (type_of% hU1_1) := hU1_1
  have ld1_0 : (Y1.setCell ⟨w.heap.size + 1 + 1, 5, none⟩ (.slice (some ⟨g1, 0, none⟩) m1 m1)).cell? ⟨w.heap.size + 1 + 1, 0, none⟩ = some (.int .i64 kd) := by rw [cell_of_row _ _ 0 _ _ (0, 0) hU1_1.out]; rfl
  have rs1_0 : (Y1.setCell ⟨w.heap.size + 1 + 1, 5, none⟩ (.slice (some ⟨g1, 0, none⟩) m1 m1)).cell? ⟨w.heap.size + 1, 0, none⟩ = some (.int .i64 0) := by rw [cell_of_row _ _ 0 _ _ (0, 0) hU1_1.res]; rfl
  have rf1_0 : (Y1.setCell ⟨w.heap.size + 1 + 1, 5, none⟩ (.slice (some ⟨g1, 0, none⟩) m1 m1)).frozen? ⟨w.heap.size + 1, 0, none⟩ = false := frozen_of_row _ _ 0 _ _ hU1_1.res
  have ld1_1 : (Y1.setCell ⟨w.heap.size + 1 + 1, 5, none⟩ (.slice (some ⟨g1, 0, none⟩) m1 m1)).cell? ⟨w.heap.size + 1 + 1, 1, none⟩ = some (.string tx) := by rw [cell_of_row _ _ 1 _ _ (0, 0) hU1_1.out]; rfl
  have rs1_1 : (Y1.setCell ⟨w.heap.size + 1 + 1, 5, none⟩ (.slice (some ⟨g1, 0, none⟩) m1 m1)).cell? ⟨w.heap.size + 1, 1, none⟩ = some (.string ⟨#[]⟩) := by rw [cell_of_row _ _ 1 _ _ (0, 0) hU1_1.res]; rfl
  have rf1_1 : (Y1.setCell ⟨w.heap.size + 1 + 1, 5, none⟩ (.slice (some ⟨g1, 0, none⟩) m1 m1)).frozen? ⟨w.heap.size + 1, 1, none⟩ = false := frozen_of_row _ _ 1 _ _ hU1_1.res
  have ld1_2 : (Y1.setCell ⟨w.heap.size + 1 + 1, 5, none⟩ (.slice (some ⟨g1, 0, none⟩) m1 m1)).cell? ⟨w.heap.size + 1 + 1, 2, none⟩ = some (.int .i64 nn) := by rw [cell_of_row _ _ 2 _ _ (0, 0) hU1_1.out]; rfl
  have rs1_2 : (Y1.setCell ⟨w.heap.size + 1 + 1, 5, none⟩ (.slice (some ⟨g1, 0, none⟩) m1 m1)).cell? ⟨w.heap.size + 1, 2, none⟩ = some (.int .i64 0) := by rw [cell_of_row _ _ 2 _ _ (0, 0) hU1_1.res]; rfl
  have rf1_2 : (Y1.setCell ⟨w.heap.size + 1 + 1, 5, none⟩ (.slice (some ⟨g1, 0, none⟩) m1 m1)).frozen? ⟨w.heap.size + 1, 2, none⟩ = false := frozen_of_row _ _ 2 _ _ hU1_1.res
  have ld1_3 : (Y1.setCell ⟨w.heap.size + 1 + 1, 5, none⟩ (.slice (some ⟨g1, 0, none⟩) m1 m1)).cell? ⟨w.heap.size + 1 + 1, 3, none⟩ = some (.int .i64 ln) := by rw [cell_of_row _ _ 3 _ _ (0, 0) hU1_1.out]; rfl
  have rs1_3 : (Y1.setCell ⟨w.heap.size + 1 + 1, 5, none⟩ (.slice (some ⟨g1, 0, none⟩) m1 m1)).cell? ⟨w.heap.size + 1, 3, none⟩ = some (.int .i64 0) := by rw [cell_of_row _ _ 3 _ _ (0, 0) hU1_1.res]; rfl
  have rf1_3 : (Y1.setCell ⟨w.heap.size + 1 + 1, 5, none⟩ (.slice (some ⟨g1, 0, none⟩) m1 m1)).frozen? ⟨w.heap.size + 1, 3, none⟩ = false := frozen_of_row _ _ 3 _ _ hU1_1.res
  have ld1_4 : (Y1.setCell ⟨w.heap.size + 1 + 1, 5, none⟩ (.slice (some ⟨g1, 0, none⟩) m1 m1)).cell? ⟨w.heap.size + 1 + 1, 4, none⟩ = some (.slice (some ⟨g0, 0, none⟩) m0 m0) := by rw [cell_of_row _ _ 4 _ _ (0, 0) hU1_1.out]; rfl
  have rs1_4 : (Y1.setCell ⟨w.heap.size + 1 + 1, 5, none⟩ (.slice (some ⟨g1, 0, none⟩) m1 m1)).cell? ⟨w.heap.size + 1, 4, none⟩ = some (.slice none 0 0) := by rw [cell_of_row _ _ 4 _ _ (0, 0) hU1_1.res]; rfl
  have rf1_4 : (Y1.setCell ⟨w.heap.size + 1 + 1, 5, none⟩ (.slice (some ⟨g1, 0, none⟩) m1 m1)).frozen? ⟨w.heap.size + 1, 4, none⟩ = false := frozen_of_row _ _ 4 _ _ hU1_1.res
  have ld1_5 : (Y1.setCell ⟨w.heap.size + 1 + 1, 5, none⟩ (.slice (some ⟨g1, 0, none⟩) m1 m1)).cell? ⟨w.heap.size + 1 + 1, 5, none⟩ = some (.slice (some ⟨g1, 0, none⟩) m1 m1) := by rw [cell_of_row _ _ 5 _ _ (0, 0) hU1_1.out]; rfl
  have rs1_5 : (Y1.setCell ⟨w.heap.size + 1 + 1, 5, none⟩ (.slice (some ⟨g1, 0, none⟩) m1 m1)).cell? ⟨w.heap.size + 1, 5, none⟩ = some (.slice none 0 0) := by rw [cell_of_row _ _ 5 _ _ (0, 0) hU1_1.res]; rfl
  have rf1_5 : (Y1.setCell ⟨w.heap.size + 1 + 1, 5, none⟩ (.slice (some ⟨g1, 0, none⟩) m1 m1)).frozen? ⟨w.heap.size + 1, 5, none⟩ = false := frozen_of_row _ _ 5 _ _ hU1_1.res
  clear K1 K0 K0y ab1 hb1 hT1 D1 hU1_0 hU1_1 hl1
  have HEND : Hid ((putL (Y1.setCell ⟨w.heap.size + 1 + 1, 5, none⟩ (.slice (some ⟨g1, 0, none⟩) m1 m1)) (w.heap.size + 1) 0 [.int .i64 kd, .string tx, .int .i64 nn, .int .i64 ln, .slice (some ⟨g0, 0, none⟩) m0 m0, .slice (some ⟨g1, 0, none⟩) m1 m1]).heap[w.heap.size + 1]? = some (.cells #[.int .i64 kd, .string tx, .int .i64 nn, .int .i64 ln, .slice (some ⟨g0, 0, none⟩) m0 m0, .slice (some ⟨g1, 0, none⟩) m1 m1] 41 (0, 0)) ∧ (∀ F, Above w.heap.size (putL (Y1.setCell ⟨w.heap.size + 1 + 1, 5, none⟩ (.slice (some ⟨g1, 0, none⟩) m1 m1)) (w.heap.size + 1) 0 [.int .i64 kd, .string tx, .int .i64 nn, .int .i64 ln, .slice (some ⟨g0, 0, none⟩) m0 m0, .slice (some ⟨g1, 0, none⟩) m1 m1]) F → P0 F (.slice (some ⟨g0, 0, none⟩) m0 m0) ∧ P1 F (.slice (some ⟨g1, 0, none⟩) m1 m1)) ∧ Below w.heap.size w (putL (Y1.setCell ⟨w.heap.size + 1 + 1, 5, none⟩ (.slice (some ⟨g1, 0, none⟩) m1 m1)) (w.heap.size + 1) 0 [.int .i64 kd, .string tx, .int .i64 nn, .int .i64 ln, .slice (some ⟨g0, 0, none⟩) m0 m0, .slice (some ⟨g1, 0, none⟩) m1 m1])) :=
    ⟨putL_row HV.out.res rfl, fun F hF => ⟨L0.out F ((putL_above (by show w.heap.size + 1 < _; omega)).trans (hF.mono (by omega))), L1.out F ((putL_above (by show w.heap.size + 1 < _; omega)).trans (hF.mono (by omega)))⟩, putL_below HV.out.bel (by omega)⟩
  clear HV L0 L1
  go_wp2_with fail
  simp only [putL, Nat.zero_add, Nat.reduceAdd] at HEND
  exact ret_toExpC (b := w.heap.size + 1) rfl HEND.out.1 ⟨g0, g1, rfl, HEND.out.2.1, HEND.out.2.2⟩

/-- values set one behind the other -/
def setL (X : List Value) : Nat → List Value → List Value
  | _, [] => X
  | i, v :: r => setL (X.set i v) (i + 1) r
theorem setL_lo : ∀ (l : List Value) (X : List Value) (i k : Nat), k < i → (setL X i l)[k]? = X[k]? := by
  intro l
  induction l with
  | nil => intros; rfl
  | cons v r ih =>
    intro X i k h
    exact (ih (X.set i v) (i + 1) k (by omega)).trans (List.getElem?_set_ne (by omega))
theorem setL_at : ∀ (l : List Value) (X : List Value) (i : Nat), i + l.length ≤ X.length → ∀ c u, l[c]? = some u → (setL X i l)[i + c]? = some u := by
  intro l
  induction l with
  | nil => intro X i _ c u h; simp at h
  | cons v r ih =>
    intro X i hz c u h
    simp only [List.length_cons] at hz
    cases c with
    | zero =>
      refine (setL_lo r (X.set i v) (i + 1) i (by omega)).trans ?_
      rw [List.getElem?_set_self (by omega)]
      exact h
    | succ c =>
      have := ih (X.set i v) (i + 1) (by rw [List.length_set]; omega) c u h
      rw [show i + (c + 1) = i + 1 + c by omega]
      exact this
/-- the first so many elements of a row hold these, whatever becomes of older blocks -/
def FilG {α : Type} (z B : Nat) (P : World → List Value → α → Prop) (w : World) (X : List Value) (ks : List α) (k : Nat) : Prop :=
  ∀ j (h : j < ks.length), j < k → ∃ cs, cs.length = z ∧ (∀ c u, cs[c]? = some u → X[j * z + c]? = some u) ∧ KpX B w fun F => P F cs ks[j]
theorem FilG.more {α : Type} {z B : Nat} {P : World → List Value → α → Prop} {w w' : World} {X Y : List Value} {ks : List α} {k : Nat} {cs : List Value} (h : FilG z B P w X ks k) (ha : Above B w w') (hk : k < ks.length) (hX : X.length = ks.length * z) (hl : cs.length = z) (hn : KpX B w' fun F => P F cs ks[k]) (hY : Y = setL X (k * z) cs) : FilG z B P w' Y ks (k + 1) := by
  intro j hj hlt
  subst hY
  by_cases e : j = k
  · subst e
    refine ⟨cs, hl, setL_at cs X (j * z) ?_, hn⟩
    have h2 : (j + 1) * z ≤ ks.length * z := Nat.mul_le_mul_right z hk
    rw [Nat.add_mul] at h2
    omega
  · obtain ⟨ds, h1, h2, h3⟩ := h j hj (by omega)
    refine ⟨ds, h1, fun c u hu => ?_, h3.step ha⟩
    have hc : c < z := by
      have := (List.getElem?_eq_some_iff.1 hu).1
      omega
    have h4 : (j + 1) * z ≤ k * z := Nat.mul_le_mul_right z (by omega)
    rw [Nat.add_mul] at h4
    rw [setL_lo _ _ _ _ (by omega)]
    exact h2 c u hu
theorem FilG.row {α : Type} {z g cap T : Nat} {P : World → List Value → α → Prop} {w : World} {X : List Value} {ks : List α} (hf : FilG z (g + 1) P w X ks ks.length) (ho : w.ownsRow g T z (.slice (some ⟨g, 0, none⟩) ks.length cap) ks.length X) : ∀ F, Above g w F → RowZ z F (P F) (.slice (some ⟨g, 0, none⟩) ks.length cap) ks := fun F ha => by
  have ho' := owns_above ho ha
  have hcl : ∃ cur e, F.heap[g]? = some (.cells cur e (0, 0)) := by
    rcases ho'.2 with ⟨h, _⟩ | ⟨g', cap', cur, hv, _, hh, _⟩
    · simp at h
    · simp only [Value.slice.injEq, Option.some.injEq, Addr.mk.injEq] at hv
      rw [← hv.1.1] at hh
      exact ⟨cur, _, hh⟩
  refine .inr ⟨g, 0, cap, rfl, hcl, fun j hj => ?_⟩
  obtain ⟨cs, h1, h2, h3⟩ := hf j hj hj
  refine ⟨cs, h3 F (ha.mono (by omega)), fun c u hu => ?_⟩
  have hc : c < z := by
    have := (List.getElem?_eq_some_iff.1 hu).1
    omega
  have h4 : (j + 1) * z ≤ ks.length * z := Nat.mul_le_mul_right z hj
  rw [Nat.add_mul] at h4
  rw [Nat.zero_add, ho'.cellAt (j * z + c) (by omega)]
  exact h2 c u hu

theorem Try.infoExp : (Try.prog.info? 41).map (fun i => (i.zero, i.size, i.bytes)) = some (some (.agg #[.int .i64 0, .string ⟨#[]⟩, .int .i64 0, .int .i64 0, .slice none 0 0, .slice none 0 0]), 6, 88) := by kernel_rfl
set_option maxHeartbeats 3200000 in
set_option maxRecDepth 100000 in
theorem lawsToXps (n : Nat) (ih : ∀ (cs : List Value) (t : Xp) (w : World), XpAt w n cs t → Xp.bulk n t ≤ 1048576 →
      Calls Try.prog 31 #[.agg cs.toArray] w fun e w' => ∃ (an : Option Addr) (ln cn : Nat) (ak : Option Addr) (lk ck : Nat), e = .returned (.agg #[.int .i64 t.kind, .string t.text, .int .i64 t.n, .int .i64 t.line, .slice an ln cn, .slice ak lk ck]) ∧ (∀ F, Above w.heap.size w' F → XpW F n [.int .i64 t.kind, .string t.text, .int .i64 t.n, .int .i64 t.line, .slice an ln cn, .slice ak lk ck] t) ∧ Below w.heap.size w w')
    (v : Value) (ks : List Xp) (w : World) (hrow : RowG 6 w (XpAt w n) v ks) (hkl : bulkA (Xp.bulk n) ks ≤ 1048576) :
    Calls Try.prog 42 #[v] w fun e w' => e = .returned (.slice (some ⟨w.heap.size, 0, none⟩) ks.length ks.length) ∧ (∀ F, Above w.heap.size w' F → RowZ 6 F (XpW F n) (.slice (some ⟨w.heap.size, 0, none⟩) ks.length ks.length) ks) ∧ Below w.heap.size w w' := by
  obtain ⟨i0, hi, hz0, hz1, hz2⟩ := info_parts Try.infoExp
  obtain ⟨a, capa, rfl, ha⟩ := hrow.open fun cs t h => by rw [h.len]; decide
  have HEA : Hid (type_of% ha) := ha
  have IH : Hid (type_of% ih) := ih
  have hlen : ks.length ≤ 1048576 := by unfold bulkA at hkl; omega
  clear hrow ha ih
  go_enter Try.func42, Try.ntmps42
  go_wp2_with (at_make; refine wpList_make_full _ rfl _ _ 39 rfl w.heap.size 41 i0 (.agg #[.int .i64 0, .string ⟨#[]⟩, .int .i64 0, .int .i64 0, .slice none 0 0, .slice none 0 0]) 6 Try.underlying39 hi hz0 hz1 .i64 .i64 _ _ ks.length rfl rfl rfl rfl (by rw [hz2]; omega) (by unfold maxLen; omega) (Nat.le_refl _) ?_)
  intro w1 hown hgrow
  have hB : Below w.heap.size w w1 := (Below.refl _ _).grown hgrow (Nat.le_refl _) (fun k hk => by cases hk)
  obtain ⟨X, hX⟩ : ∃ X, w1.ownsRow w.heap.size 41 6 (.slice (some ⟨w.heap.size, 0, none⟩) ks.length ks.length) ks.length X := ⟨_, hown⟩
  have hw1 : w.heap.size + 1 ≤ w1.heap.size := by have := (hX.lt w.heap.size rfl).2; omega
  have HX : Hid (type_of% hX) := hX
  clear hown hgrow hX
  go_wp2_with fail
  go_loopw [4] (fun i wr => ∃ (k : Nat) (X : List Value), k ≤ ks.length ∧ i = .int .i64 k ∧ wr.ownsRow w.heap.size 41 6 (.slice (some ⟨w.heap.size, 0, none⟩) ks.length ks.length) ks.length X ∧ FilG 6 (w.heap.size + 1) (fun F cs t => XpW F n cs t) wr X ks k ∧ Below w.heap.size w wr ∧ w.heap.size + 1 ≤ wr.heap.size) (fun i _ => ks.length - (intOf i).toNat)
  case atStart => exact ⟨0, X, Nat.zero_le _, rfl, HX.out, fun j _ h => absurd h (by omega), hB, hw1⟩
  case round =>
    obtain ⟨k, Y, hk, rfl, ho, hfil, hbe, hsz⟩ := hrel
    clear HX hB hw1
    have HF : Hid (type_of% hfil) := hfil
    clear hfil
    have hYl : Y.length = ks.length * 6 := ho.1
    by_cases hlt : k < ks.length
    · obtain ⟨ba, oa, ca, rfl, hba, hta, pa⟩ := HEA.out k hlt
      have hbk := bulkA_one (Xp.bulk n) ks k hlt
      have HC0 := IH.out ca ks[k] wr (hta.below hbe) (by omega)
      obtain ⟨x0, x1, x2, x3, x4, x5, rfl⟩ := cells6 hta.len
      have A0 : wr.cell? ⟨ba, oa + k * 6, none⟩ = some x0 := (hbe.cell (p := ⟨ba, oa + k * 6 + 0, none⟩) hba).trans (pa 0 x0 rfl)
      have A1 : wr.cell? ⟨ba, oa + k * 6 + 1, none⟩ = some x1 := (hbe.cell (p := ⟨ba, oa + k * 6 + 1, none⟩) hba).trans (pa 1 x1 rfl)
      have A2 : wr.cell? ⟨ba, oa + k * 6 + 2, none⟩ = some x2 := (hbe.cell (p := ⟨ba, oa + k * 6 + 2, none⟩) hba).trans (pa 2 x2 rfl)
      have A3 : wr.cell? ⟨ba, oa + k * 6 + 3, none⟩ = some x3 := (hbe.cell (p := ⟨ba, oa + k * 6 + 3, none⟩) hba).trans (pa 3 x3 rfl)
      have A4 : wr.cell? ⟨ba, oa + k * 6 + 4, none⟩ = some x4 := (hbe.cell (p := ⟨ba, oa + k * 6 + 4, none⟩) hba).trans (pa 4 x4 rfl)
      have A5 : wr.cell? ⟨ba, oa + k * 6 + 5, none⟩ = some x5 := (hbe.cell (p := ⟨ba, oa + k * 6 + 5, none⟩) hba).trans (pa 5 x5 rfl)
      have HC : Hid (type_of% HC0) := HC0
      clear HEA IH hta hbk HC0 pa
      go_wp2_with fail
      refine HC.out.mono ?_
      rintro e w2 ⟨an, ln, cn, ak, lk, ck, rfl, hnew, hb2⟩
      have o0 := kept_belowT ho hb2
      have hbe2 : Below w.heap.size w w2 := hbe.trans (hb2.mono (by omega))
      have hsz2 : w.heap.size + 1 ≤ w2.heap.size := Nat.le_trans hsz hb2.size
      have ab2 : Above (w.heap.size + 1) wr w2 := Above.of_below hb2
      have HNW : Hid (type_of% hnew) := hnew
      clear hnew ho hbe hb2 HC A0 A1 A2 A3 A4 A5
      generalize hv0 : Value.int .i64 ks[k].kind = y0 at *
      generalize hv1 : Value.string ks[k].text = y1 at *
      generalize hv2 : Value.int .i64 ks[k].n = y2 at *
      generalize hv3 : Value.int .i64 ks[k].line = y3 at *
      generalize hv4 : Value.slice an ln cn = y4 at *
      generalize hv5 : Value.slice ak lk ck = y5 at *
      have f0 := o0.frozenAt (k * 6)
      have q0 : ∃ u, w2.cell? ⟨w.heap.size, k * 6, none⟩ = some u := by rw [o0.cellAt (k * 6) (by omega)]; exact ⟨_, List.getElem?_eq_getElem (by first | omega | (simp only [List.length_set]; omega))⟩
      obtain ⟨u0', q0⟩ := q0
      obtain ⟨o1, _⟩ := o0.stored (k * 6) y0
      have f1 := o1.frozenAt (k * 6 + 1)
      have q1 : ∃ u, (w2.setCell ⟨w.heap.size, k * 6, none⟩ y0).cell? ⟨w.heap.size, k * 6 + 1, none⟩ = some u := by rw [o1.cellAt (k * 6 + 1) (by omega)]; exact ⟨_, List.getElem?_eq_getElem (by first | omega | (simp only [List.length_set]; omega))⟩
      obtain ⟨u1', q1⟩ := q1
      obtain ⟨o2, _⟩ := o1.stored (k * 6 + 1) y1
      have f2 := o2.frozenAt (k * 6 + 2)
      have q2 : ∃ u, ((w2.setCell ⟨w.heap.size, k * 6, none⟩ y0).setCell ⟨w.heap.size, k * 6 + 1, none⟩ y1).cell? ⟨w.heap.size, k * 6 + 2, none⟩ = some u := by rw [o2.cellAt (k * 6 + 2) (by omega)]; exact ⟨_, List.getElem?_eq_getElem (by first | omega | (simp only [List.length_set]; omega))⟩
      obtain ⟨u2', q2⟩ := q2
      obtain ⟨o3, _⟩ := o2.stored (k * 6 + 2) y2
      have f3 := o3.frozenAt (k * 6 + 3)
      have q3 : ∃ u, (((w2.setCell ⟨w.heap.size, k * 6, none⟩ y0).setCell ⟨w.heap.size, k * 6 + 1, none⟩ y1).setCell ⟨w.heap.size, k * 6 + 2, none⟩ y2).cell? ⟨w.heap.size, k * 6 + 3, none⟩ = some u := by rw [o3.cellAt (k * 6 + 3) (by omega)]; exact ⟨_, List.getElem?_eq_getElem (by first | omega | (simp only [List.length_set]; omega))⟩
      obtain ⟨u3', q3⟩ := q3
      obtain ⟨o4, _⟩ := o3.stored (k * 6 + 3) y3
      have f4 := o4.frozenAt (k * 6 + 4)
      have q4 : ∃ u, ((((w2.setCell ⟨w.heap.size, k * 6, none⟩ y0).setCell ⟨w.heap.size, k * 6 + 1, none⟩ y1).setCell ⟨w.heap.size, k * 6 + 2, none⟩ y2).setCell ⟨w.heap.size, k * 6 + 3, none⟩ y3).cell? ⟨w.heap.size, k * 6 + 4, none⟩ = some u := by rw [o4.cellAt (k * 6 + 4) (by omega)]; exact ⟨_, List.getElem?_eq_getElem (by first | omega | (simp only [List.length_set]; omega))⟩
      obtain ⟨u4', q4⟩ := q4
      obtain ⟨o5, _⟩ := o4.stored (k * 6 + 4) y4
      have f5 := o5.frozenAt (k * 6 + 5)
      have q5 : ∃ u, (((((w2.setCell ⟨w.heap.size, k * 6, none⟩ y0).setCell ⟨w.heap.size, k * 6 + 1, none⟩ y1).setCell ⟨w.heap.size, k * 6 + 2, none⟩ y2).setCell ⟨w.heap.size, k * 6 + 3, none⟩ y3).setCell ⟨w.heap.size, k * 6 + 4, none⟩ y4).cell? ⟨w.heap.size, k * 6 + 5, none⟩ = some u := by rw [o5.cellAt (k * 6 + 5) (by omega)]; exact ⟨_, List.getElem?_eq_getElem (by first | omega | (simp only [List.length_set]; omega))⟩
      obtain ⟨u5', q5⟩ := q5
      obtain ⟨o6, _⟩ := o5.stored (k * 6 + 5) y5
      have ab3 : Above (w.heap.size + 1) w2 ((((((w2.setCell ⟨w.heap.size, k * 6, none⟩ y0).setCell ⟨w.heap.size, k * 6 + 1, none⟩ y1).setCell ⟨w.heap.size, k * 6 + 2, none⟩ y2).setCell ⟨w.heap.size, k * 6 + 3, none⟩ y3).setCell ⟨w.heap.size, k * 6 + 4, none⟩ y4).setCell ⟨w.heap.size, k * 6 + 5, none⟩ y5) := (Above.trans (Above.trans (Above.trans (Above.trans (Above.trans (Above.trans (Above.refl _ _) (Above.set _ _ _ (by show w.heap.size < _; omega))) (Above.set _ _ _ (by show w.heap.size < _; omega))) (Above.set _ _ _ (by show w.heap.size < _; omega))) (Above.set _ _ _ (by show w.heap.size < _; omega))) (Above.set _ _ _ (by show w.heap.size < _; omega))) (Above.set _ _ _ (by show w.heap.size < _; omega)))
      have HR1 : Hid (type_of% o6) := o6
      have HR2 : Hid (FilG 6 (w.heap.size + 1) (fun F cs t => XpW F n cs t) ((((((w2.setCell ⟨w.heap.size, k * 6, none⟩ y0).setCell ⟨w.heap.size, k * 6 + 1, none⟩ y1).setCell ⟨w.heap.size, k * 6 + 2, none⟩ y2).setCell ⟨w.heap.size, k * 6 + 3, none⟩ y3).setCell ⟨w.heap.size, k * 6 + 4, none⟩ y4).setCell ⟨w.heap.size, k * 6 + 5, none⟩ y5) _ ks (k + 1)) := HF.out.more (cs := [y0, y1, y2, y3, y4, y5]) (ab2.trans ab3) hlt hYl rfl (fun F hF => HNW.out F ((ab3.trans hF).mono hsz)) rfl
      have HR3 : Hid (Below w.heap.size w ((((((w2.setCell ⟨w.heap.size, k * 6, none⟩ y0).setCell ⟨w.heap.size, k * 6 + 1, none⟩ y1).setCell ⟨w.heap.size, k * 6 + 2, none⟩ y2).setCell ⟨w.heap.size, k * 6 + 3, none⟩ y3).setCell ⟨w.heap.size, k * 6 + 4, none⟩ y4).setCell ⟨w.heap.size, k * 6 + 5, none⟩ y5)) := ((((((hbe2.setCell (Nat.le_refl _) _).setCell (Nat.le_refl _) _).setCell (Nat.le_refl _) _).setCell (Nat.le_refl _) _).setCell (Nat.le_refl _) _).setCell (Nat.le_refl _) _)
      have HR4 : w.heap.size + 1 ≤ ((((((w2.setCell ⟨w.heap.size, k * 6, none⟩ y0).setCell ⟨w.heap.size, k * 6 + 1, none⟩ y1).setCell ⟨w.heap.size, k * 6 + 2, none⟩ y2).setCell ⟨w.heap.size, k * 6 + 3, none⟩ y3).setCell ⟨w.heap.size, k * 6 + 4, none⟩ y4).setCell ⟨w.heap.size, k * 6 + 5, none⟩ y5).heap.size := by simpa using hsz2
      clear o0 o1 o2 o3 o4 o5 o6 ab2 ab3 HNW HF hbe2 hsz2 hsz
      subst hv0 hv1 hv2 hv3 hv4 hv5
      go_wp2_with fail
      go_roundw
      case rel => exact ⟨k + 1, _, by omega, by go_num, HR1.out, HR2.out, HR3.out, HR4⟩
      case measure => simp [intOf]; omega
    · have hke : k = ks.length := by omega
      subst hke
      have HR : Hid (type_of% (HF.out.row ho)) := HF.out.row ho
      clear HF HEA IH ho
      go_wp2_with fail
      go_ret
      exact ⟨rfl, HR.out, hbe⟩

theorem RowIn.z {w : World} {R : Nat → Nat → List Value → Ty → Prop} {R' : List Value → Ty → Prop} {lo hi : Nat} {v : Value} {ts : List Ty} (h : RowIn w R lo hi v ts) (hR : ∀ lo hi cs t, R lo hi cs t → R' cs t) : RowZ 4 w R' v ts := by
  obtain ⟨b, cap, e, _, _, hcl, L, _, _, h5⟩ := h
  refine .inr ⟨b, 0, cap, e, hcl, fun j hj => ?_⟩
  obtain ⟨cs, h1, h2⟩ := h5 j hj
  exact ⟨cs, hR _ _ _ _ h1, fun c u hu => by rw [Nat.zero_add]; exact h2 c u hu⟩
theorem TyIn.w {w : World} {n lo hi : Nat} {cs : List Value} {t : Ty} (h : TyIn w n lo hi cs t) : TyW w n cs t := by
  induction n generalizing lo hi cs t with
  | zero => exact h.elim
  | succ n ih =>
    obtain ⟨vn, vk, mid, h1, h2, h3, ⟨h4, h4'⟩, h5, _, h6⟩ := h
    exact ⟨vn, vk, h1, h2, h3, ⟨h4.texts, h4'⟩, h5, h6.z fun _ _ _ _ h => ih h⟩
theorem ownTexts {g n : Nat} {w : World} {ts : List ByteArray} (ho : w.ownsRow g 9 1 (.slice (some ⟨g, 0, none⟩) ts.length n) ts.length (strV ts)) : ∀ F, Above g w F → Texts F (.slice (some ⟨g, 0, none⟩) ts.length n) ts := fun _ hF => Texts.own (owns_above ho hF)
theorem toTextsK (v : Value) (ts : List ByteArray) (w : World) (hT : Texts w v ts) (hl : ts.length ≤ 1048576) : ∀ X : World, Below w.heap.size w X → Calls Try.prog 14 #[v] X fun e w' => e = .returned (.slice (some ⟨X.heap.size, 0, none⟩) ts.length ts.length) ∧ (∀ F, Above X.heap.size w' F → Texts F (.slice (some ⟨X.heap.size, 0, none⟩) ts.length ts.length) ts) ∧ Below X.heap.size X w' := fun X hX => by
  refine (lawsTo v ts X (hT.below hX) hl).mono ?_
  rintro e w' ⟨rfl, h1, h2⟩
  exact ⟨rfl, ownTexts h1, h2⟩
theorem lawsToXp (n : Nat) : ∀ (cs : List Value) (t : Xp) (w : World), XpAt w n cs t → Xp.bulk n t ≤ 1048576 →
    Calls Try.prog 31 #[.agg cs.toArray] w fun e w' => ∃ (an : Option Addr) (ln cn : Nat) (ak : Option Addr) (lk ck : Nat), e = .returned (.agg #[.int .i64 t.kind, .string t.text, .int .i64 t.n, .int .i64 t.line, .slice an ln cn, .slice ak lk ck]) ∧ (∀ F, Above w.heap.size w' F → XpW F n [.int .i64 t.kind, .string t.text, .int .i64 t.n, .int .i64 t.line, .slice an ln cn, .slice ak lk ck] t) ∧ Below w.heap.size w w' := by
  induction n with
  | zero => intro cs t w h; exact h.elim
  | succ n ih =>
    intro cs t w h hbk
    obtain ⟨vn, vk, rfl, hnm, ⟨hT, hTl, hTs⟩, hkl, hrow⟩ := h
    rw [Xp.bulk] at hbk
    refine (toExpC t.kind t.n t.line t.text t.names.length t.kids.length vn vk (fun F u => Texts F u t.names) (fun F u => RowZ 6 F (XpW F n) u t.kids) w (toTextsK vn t.names w hT (by omega)) (fun X hX => lawsToXps n ih vk t.kids X (hrow.below hX fun _ _ _ h => h.below hX) (by unfold bulkA sumA; omega))).mono ?_
    rintro e w' ⟨g0, g1, rfl, h1, h2⟩
    exact ⟨_, _, _, _, _, _, rfl, fun F hF => ⟨_, _, rfl, hnm, ⟨(h1 F hF).1, hTl, hTs⟩, hkl, (h1 F hF).2⟩, h2⟩

end Go.Proofs.Ytegdladpkikicaa

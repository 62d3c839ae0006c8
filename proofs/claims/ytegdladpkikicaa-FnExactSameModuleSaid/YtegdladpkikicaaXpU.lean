/-
  The walks of the laws' own helpers toDef, toDefS and toModule.
-/
import Derived.Test.YtegdladpkikicaaXpT
namespace Go.Proofs.Ytegdladpkikicaa
open Go.RowKit

theorem ret_toDefC {R : Ending → World → Prop} {W : World} {tmps : Array Value} {b : Nat} {t : TypeId} {x0 x1 x2 x3 x4 x5 x6 x7 x8 x9 x10 x11 x12 x13 x14 x15 : Value} (hp : tmps[2]?.getD undef = .pointer (some ⟨b, 0, none⟩)) (h : W.heap[b]? = some (.cells #[x0, x1, x2, x3, x4, x5, x6, x7, x8, x9, x10, x11, x12, x13, x14, x15] t (0, 0))) (hR : R (.returned (.agg #[x0, x1, x2, x3, x4, x5, x6, x7, x8, x9, x10, x11, x12, x13, x14, x15])) W) :
    bodyPost Try.prog Try.f22 R .ret { tmps := tmps, defers := [] } W := by
  have h0 : W.cell? ⟨b, 0, none⟩ = some x0 := by rw [cell_of_row _ _ 0 _ _ (0, 0) h]; rfl
  have h1 : W.cell? ⟨b, 1, none⟩ = some x1 := by rw [cell_of_row _ _ 1 _ _ (0, 0) h]; rfl
  have h2 : W.cell? ⟨b, 2, none⟩ = some x2 := by rw [cell_of_row _ _ 2 _ _ (0, 0) h]; rfl
  have h3 : W.cell? ⟨b, 3, none⟩ = some x3 := by rw [cell_of_row _ _ 3 _ _ (0, 0) h]; rfl
  have h4 : W.cell? ⟨b, 4, none⟩ = some x4 := by rw [cell_of_row _ _ 4 _ _ (0, 0) h]; rfl
  have h5 : W.cell? ⟨b, 5, none⟩ = some x5 := by rw [cell_of_row _ _ 5 _ _ (0, 0) h]; rfl
  have h6 : W.cell? ⟨b, 6, none⟩ = some x6 := by rw [cell_of_row _ _ 6 _ _ (0, 0) h]; rfl
  have h7 : W.cell? ⟨b, 7, none⟩ = some x7 := by rw [cell_of_row _ _ 7 _ _ (0, 0) h]; rfl
  have h8 : W.cell? ⟨b, 8, none⟩ = some x8 := by rw [cell_of_row _ _ 8 _ _ (0, 0) h]; rfl
  have h9 : W.cell? ⟨b, 9, none⟩ = some x9 := by rw [cell_of_row _ _ 9 _ _ (0, 0) h]; rfl
  have h10 : W.cell? ⟨b, 10, none⟩ = some x10 := by rw [cell_of_row _ _ 10 _ _ (0, 0) h]; rfl
  have h11 : W.cell? ⟨b, 11, none⟩ = some x11 := by rw [cell_of_row _ _ 11 _ _ (0, 0) h]; rfl
  have h12 : W.cell? ⟨b, 12, none⟩ = some x12 := by rw [cell_of_row _ _ 12 _ _ (0, 0) h]; rfl
  have h13 : W.cell? ⟨b, 13, none⟩ = some x13 := by rw [cell_of_row _ _ 13 _ _ (0, 0) h]; rfl
  have h14 : W.cell? ⟨b, 14, none⟩ = some x14 := by rw [cell_of_row _ _ 14 _ _ (0, 0) h]; rfl
  have h15 : W.cell? ⟨b, 15, none⟩ = some x15 := by rw [cell_of_row _ _ 15 _ _ (0, 0) h]; rfl
  refine bodyPost_ret (v := .agg #[x0, x1, x2, x3, x4, x5, x6, x7, x8, x9, x10, x11, x12, x13, x14, x15]) ?_ rfl hR
  simp [results, Try.results22, go_sem, hp, h0, h1, h2, h3, h4, h5, h6, h7, h8, h9, h10, h11, h12, h13, h14, h15]
set_option maxHeartbeats 3200000 in
set_option maxRecDepth 100000 in
theorem toDefC (kd ln : Int) (tx : ByteArray) (td : Bool) (m0 m1 : Nat) (tk ek en el : Int) (tn et : ByteArray) (vp vt t0 t1 t2 t3 x0 x1 x2 x3 x4 x5 : Value) (P0 P1 : World → Value → Prop) (P2 P3 : World → List Value → Prop) (w : World)
    (C0 : ∀ X : World, Below w.heap.size w X → Calls Try.prog 14 #[vp] X fun e w' => e = .returned (.slice (some ⟨X.heap.size, 0, none⟩) m0 m0) ∧ (∀ F, Above X.heap.size w' F → P0 F (.slice (some ⟨X.heap.size, 0, none⟩) m0 m0)) ∧ Below X.heap.size X w')
    (C1 : ∀ X : World, Below w.heap.size w X → Calls Try.prog 29 #[vt] X fun e w' => e = .returned (.slice (some ⟨X.heap.size, 0, none⟩) m1 m1) ∧ (∀ F, Above X.heap.size w' F → P1 F (.slice (some ⟨X.heap.size, 0, none⟩) m1 m1)) ∧ Below X.heap.size X w')
    (C2 : ∀ X : World, Below w.heap.size w X → Calls Try.prog 30 #[.agg #[t0, t1, t2, t3]] X fun e w' => ∃ (ya : Option Addr) (yb yc : Nat) (yd : Option Addr) (ye yf : Nat), e = .returned (.agg #[.int .i64 tk, .string tn, .slice ya yb yc, .slice yd ye yf]) ∧ (∀ F, Above X.heap.size w' F → P2 F [.int .i64 tk, .string tn, .slice ya yb yc, .slice yd ye yf]) ∧ Below X.heap.size X w')
    (C3 : ∀ X : World, Below w.heap.size w X → Calls Try.prog 31 #[.agg #[x0, x1, x2, x3, x4, x5]] X fun e w' => ∃ (za : Option Addr) (zb zc : Nat) (zd : Option Addr) (ze zf : Nat), e = .returned (.agg #[.int .i64 ek, .string et, .int .i64 en, .int .i64 el, .slice za zb zc, .slice zd ze zf]) ∧ (∀ F, Above X.heap.size w' F → P3 F [.int .i64 ek, .string et, .int .i64 en, .int .i64 el, .slice za zb zc, .slice zd ze zf]) ∧ Below X.heap.size X w') :
    Calls Try.prog 22 #[.agg #[.int .i64 kd, .string tx, .int .i64 ln, vp, vt, .bool td, t0, t1, t2, t3, x0, x1, x2, x3, x4, x5]] w fun e w' => ∃ (g0 : Nat) (g1 : Nat) (ya : Option Addr) (yb yc : Nat) (yd : Option Addr) (ye yf : Nat) (za : Option Addr) (zb zc : Nat) (zd : Option Addr) (ze zf : Nat), e = .returned (.agg #[.int .i64 kd, .string tx, .int .i64 ln, .slice (some ⟨g0, 0, none⟩) m0 m0, .slice (some ⟨g1, 0, none⟩) m1 m1, .bool td, .int .i64 tk, .string tn, .slice ya yb yc, .slice yd ye yf, .int .i64 ek, .string et, .int .i64 en, .int .i64 el, .slice za zb zc, .slice zd ze zf]) ∧ (∀ F, Above w.heap.size w' F → P0 F (.slice (some ⟨g0, 0, none⟩) m0 m0) ∧ P1 F (.slice (some ⟨g1, 0, none⟩) m1 m1) ∧ P2 F [.int .i64 tk, .string tn, .slice ya yb yc, .slice yd ye yf] ∧ P3 F [.int .i64 ek, .string et, .int .i64 en, .int .i64 el, .slice za zb zc, .slice zd ze zf]) ∧ Below w.heap.size w w' := by
  have hT0 : ToB w (((w.alloc (.cells #[.int .i64 kd, .string tx, .int .i64 ln, vp, vt, .bool td, t0, t1, t2, t3, x0, x1, x2, x3, x4, x5] 59)).alloc (.cells #[.int .i64 0, .string ⟨#[]⟩, .int .i64 0, .slice none 0 0, .slice none 0 0, .bool false, .int .i64 0, .string ⟨#[]⟩, .slice none 0 0, .slice none 0 0, .int .i64 0, .string ⟨#[]⟩, .int .i64 0, .int .i64 0, .slice none 0 0, .slice none 0 0] 43)).alloc (.cells #[.int .i64 kd, .string tx, .int .i64 ln, .slice none 0 0, .slice none 0 0, .bool false, .int .i64 0, .string ⟨#[]⟩, .slice none 0 0, .slice none 0 0, .int .i64 0, .string ⟨#[]⟩, .int .i64 0, .int .i64 0, .slice none 0 0, .slice none 0 0] 43)) 59 43 #[.int .i64 kd, .string tx, .int .i64 ln, vp, vt, .bool td, t0, t1, t2, t3, x0, x1, x2, x3, x4, x5] #[.int .i64 0, .string ⟨#[]⟩, .int .i64 0, .slice none 0 0, .slice none 0 0, .bool false, .int .i64 0, .string ⟨#[]⟩, .slice none 0 0, .slice none 0 0, .int .i64 0, .string ⟨#[]⟩, .int .i64 0, .int .i64 0, .slice none 0 0, .slice none 0 0] #[.int .i64 kd, .string tx, .int .i64 ln, .slice none 0 0, .slice none 0 0, .bool false, .int .i64 0, .string ⟨#[]⟩, .slice none 0 0, .slice none 0 0, .int .i64 0, .string ⟨#[]⟩, .int .i64 0, .int .i64 0, .slice none 0 0, .slice none 0 0] := ToB.start
  have D0 : Hid (type_of% C0) := C0
  have D1 : Hid (type_of% C1) := C1
  have D2 : Hid (type_of% C2) := C2
  have D3 : Hid (type_of% C3) := C3
  clear C0 C1 C2 C3
  go_enter Try.func22, Try.ntmps22
  go_wp2_with fail
  generalize (((w.alloc (.cells #[.int .i64 kd, .string tx, .int .i64 ln, vp, vt, .bool td, t0, t1, t2, t3, x0, x1, x2, x3, x4, x5] 59)).alloc (.cells #[.int .i64 0, .string ⟨#[]⟩, .int .i64 0, .slice none 0 0, .slice none 0 0, .bool false, .int .i64 0, .string ⟨#[]⟩, .slice none 0 0, .slice none 0 0, .int .i64 0, .string ⟨#[]⟩, .int .i64 0, .int .i64 0, .slice none 0 0, .slice none 0 0] 43)).alloc (.cells #[.int .i64 kd, .string tx, .int .i64 ln, .slice none 0 0, .slice none 0 0, .bool false, .int .i64 0, .string ⟨#[]⟩, .slice none 0 0, .slice none 0 0, .int .i64 0, .string ⟨#[]⟩, .int .i64 0, .int .i64 0, .slice none 0 0, .slice none 0 0] 43)) = X0 at *
  refine (D0.out _ hT0.bel).mono ?_
  rintro e Y0 ⟨rfl, hk0, hb0⟩
  obtain ⟨g0, hg0⟩ : ∃ g, g = X0.heap.size := ⟨_, rfl⟩
  have hl0 : (w.heap.size + 1 + 1 + 1) ≤ g0 := by have := hT0.size; omega
  rw [← hg0] at hk0 ⊢
  have K0 : KpX (w.heap.size + 1 + 1 + 1) Y0 fun F => P0 F (.slice (some ⟨g0, 0, none⟩) m0 m0) := fun F hF => hk0 F (hF.mono hl0)
  clear hk0 hg0
  have hU0_0 := hT0.call hb0
  have st0_3 : Y0.cell? ⟨w.heap.size + 1 + 1, 3, none⟩ = some (.slice none 0 0) := by rw [cell_of_row _ _ 3 _ _ (0, 0) hU0_0.out]; rfl
  have sf0_3 : Y0.frozen? ⟨w.heap.size + 1 + 1, 3, none⟩ = false := frozen_of_row _ _ 3 _ _ hU0_0.out
  have hU0_1 : ToB w (Y0.setCell ⟨w.heap.size + 1 + 1, 3, none⟩ (.slice (some ⟨g0, 0, none⟩) m0 m0)) 59 43 #[.int .i64 kd, .string tx, .int .i64 ln, vp, vt, .bool td, t0, t1, t2, t3, x0, x1, x2, x3, x4, x5] #[.int .i64 0, .string ⟨#[]⟩, .int .i64 0, .slice none 0 0, .slice none 0 0, .bool false, .int .i64 0, .string ⟨#[]⟩, .slice none 0 0, .slice none 0 0, .int .i64 0, .string ⟨#[]⟩, .int .i64 0, .int .i64 0, .slice none 0 0, .slice none 0 0] #[.int .i64 kd, .string tx, .int .i64 ln, .slice (some ⟨g0, 0, none⟩) m0 m0, .slice none 0 0, .bool false, .int .i64 0, .string ⟨#[]⟩, .slice none 0 0, .slice none 0 0, .int .i64 0, .string ⟨#[]⟩, .int .i64 0, .int .i64 0, .slice none 0 0, .slice none 0 0] := hU0_0.set 3 _ (heap_setCell_same _ _ 3 _ _ _ hU0_0.out)
  have ab0 : Above (w.heap.size + 1 + 1 + 1) Y0 (Y0.setCell ⟨w.heap.size + 1 + 1, 3, none⟩ (.slice (some ⟨g0, 0, none⟩) m0 m0)) := by
    exact (Above.trans (Above.refl _ _) (Above.set _ _ _ (by show w.heap.size + 1 + 1 < _; omega)))
  have L0 : Hid (type_of% (K0.step ab0)) := K0.step ab0
  have HV : Hid (type_of% hU0_1) := hU0_1
  have ld0_4 : (Y0.setCell ⟨w.heap.size + 1 + 1, 3, none⟩ (.slice (some ⟨g0, 0, none⟩) m0 m0)).cell? ⟨w.heap.size, 4, none⟩ = some (vt) := by rw [cell_of_row _ _ 4 _ _ (0, 0) hU0_1.arg]; rfl
  clear K0 ab0 hb0 hT0 D0 hU0_0 hU0_1 hl0
  go_wp2_with fail
  clear st0_3 sf0_3 ld0_4
  generalize (Y0.setCell ⟨w.heap.size + 1 + 1, 3, none⟩ (.slice (some ⟨g0, 0, none⟩) m0 m0)) = X1 at *
  have hT1 := HV.out
  have K0 := L0.out
  clear HV L0
  refine (D1.out _ hT1.bel).mono ?_
  rintro e Y1 ⟨rfl, hk1, hb1⟩
  obtain ⟨g1, hg1⟩ : ∃ g, g = X1.heap.size := ⟨_, rfl⟩
  have hl1 : (w.heap.size + 1 + 1 + 1) ≤ g1 := by have := hT1.size; omega
  rw [← hg1] at hk1 ⊢
  have K1 : KpX (w.heap.size + 1 + 1 + 1) Y1 fun F => P1 F (.slice (some ⟨g1, 0, none⟩) m1 m1) := fun F hF => hk1 F (hF.mono hl1)
  clear hk1 hg1
  have K0y := K0.step (Above.of_below (B := (w.heap.size + 1 + 1 + 1)) hb1)
  have hU1_0 := hT1.call hb1
  have st1_4 : Y1.cell? ⟨w.heap.size + 1 + 1, 4, none⟩ = some (.slice none 0 0) := by rw [cell_of_row _ _ 4 _ _ (0, 0) hU1_0.out]; rfl
  have sf1_4 : Y1.frozen? ⟨w.heap.size + 1 + 1, 4, none⟩ = false := frozen_of_row _ _ 4 _ _ hU1_0.out
  have hU1_1 : ToB w (Y1.setCell ⟨w.heap.size + 1 + 1, 4, none⟩ (.slice (some ⟨g1, 0, none⟩) m1 m1)) 59 43 #[.int .i64 kd, .string tx, .int .i64 ln, vp, vt, .bool td, t0, t1, t2, t3, x0, x1, x2, x3, x4, x5] #[.int .i64 0, .string ⟨#[]⟩, .int .i64 0, .slice none 0 0, .slice none 0 0, .bool false, .int .i64 0, .string ⟨#[]⟩, .slice none 0 0, .slice none 0 0, .int .i64 0, .string ⟨#[]⟩, .int .i64 0, .int .i64 0, .slice none 0 0, .slice none 0 0] #[.int .i64 kd, .string tx, .int .i64 ln, .slice (some ⟨g0, 0, none⟩) m0 m0, .slice (some ⟨g1, 0, none⟩) m1 m1, .bool false, .int .i64 0, .string ⟨#[]⟩, .slice none 0 0, .slice none 0 0, .int .i64 0, .string ⟨#[]⟩, .int .i64 0, .int .i64 0, .slice none 0 0, .slice none 0 0] := hU1_0.set 4 _ (heap_setCell_same _ _ 4 _ _ _ hU1_0.out)
  have ld1_5 : (Y1.setCell ⟨w.heap.size + 1 + 1, 4, none⟩ (.slice (some ⟨g1, 0, none⟩) m1 m1)).cell? ⟨w.heap.size, 5, none⟩ = some (.bool td) := by rw [cell_of_row _ _ 5 _ _ (0, 0) hU1_1.arg]; rfl
  have st1_5 : (Y1.setCell ⟨w.heap.size + 1 + 1, 4, none⟩ (.slice (some ⟨g1, 0, none⟩) m1 m1)).cell? ⟨w.heap.size + 1 + 1, 5, none⟩ = some (.bool false) := by rw [cell_of_row _ _ 5 _ _ (0, 0) hU1_1.out]; rfl
  have sf1_5 : (Y1.setCell ⟨w.heap.size + 1 + 1, 4, none⟩ (.slice (some ⟨g1, 0, none⟩) m1 m1)).frozen? ⟨w.heap.size + 1 + 1, 5, none⟩ = false := frozen_of_row _ _ 5 _ _ hU1_1.out
  have hU1_2 : ToB w ((Y1.setCell ⟨w.heap.size + 1 + 1, 4, none⟩ (.slice (some ⟨g1, 0, none⟩) m1 m1)).setCell ⟨w.heap.size + 1 + 1, 5, none⟩ (.bool td)) 59 43 #[.int .i64 kd, .string tx, .int .i64 ln, vp, vt, .bool td, t0, t1, t2, t3, x0, x1, x2, x3, x4, x5] #[.int .i64 0, .string ⟨#[]⟩, .int .i64 0, .slice none 0 0, .slice none 0 0, .bool false, .int .i64 0, .string ⟨#[]⟩, .slice none 0 0, .slice none 0 0, .int .i64 0, .string ⟨#[]⟩, .int .i64 0, .int .i64 0, .slice none 0 0, .slice none 0 0] #[.int .i64 kd, .string tx, .int .i64 ln, .slice (some ⟨g0, 0, none⟩) m0 m0, .slice (some ⟨g1, 0, none⟩) m1 m1, .bool td, .int .i64 0, .string ⟨#[]⟩, .slice none 0 0, .slice none 0 0, .int .i64 0, .string ⟨#[]⟩, .int .i64 0, .int .i64 0, .slice none 0 0, .slice none 0 0] := hU1_1.set 5 _ (heap_setCell_same _ _ 5 _ _ _ hU1_1.out)
  have ab1 : Above (w.heap.size + 1 + 1 + 1) Y1 ((Y1.setCell ⟨w.heap.size + 1 + 1, 4, none⟩ (.slice (some ⟨g1, 0, none⟩) m1 m1)).setCell ⟨w.heap.size + 1 + 1, 5, none⟩ (.bool td)) := by
    exact (Above.trans (Above.trans (Above.refl _ _) (Above.set _ _ _ (by show w.heap.size + 1 + 1 < _; omega))) (Above.set _ _ _ (by show w.heap.size + 1 + 1 < _; omega)))
  have L0 : Hid (type_of% (K0y.step ab1)) := K0y.step ab1
  have L1 : Hid (type_of% (K1.step ab1)) := K1.step ab1
  have HV : Hid (type_of% hU1_2) := hU1_2
  have ld1_6 : ((Y1.setCell ⟨w.heap.size + 1 + 1, 4, none⟩ (.slice (some ⟨g1, 0, none⟩) m1 m1)).setCell ⟨w.heap.size + 1 + 1, 5, none⟩ (.bool td)).cell? ⟨w.heap.size, 6, none⟩ = some (t0) := by rw [cell_of_row _ _ 6 _ _ (0, 0) hU1_2.arg]; rfl
  have ld1_7 : ((Y1.setCell ⟨w.heap.size + 1 + 1, 4, none⟩ (.slice (some ⟨g1, 0, none⟩) m1 m1)).setCell ⟨w.heap.size + 1 + 1, 5, none⟩ (.bool td)).cell? ⟨w.heap.size, 7, none⟩ = some (t1) := by rw [cell_of_row _ _ 7 _ _ (0, 0) hU1_2.arg]; rfl
  have ld1_8 : ((Y1.setCell ⟨w.heap.size + 1 + 1, 4, none⟩ (.slice (some ⟨g1, 0, none⟩) m1 m1)).setCell ⟨w.heap.size + 1 + 1, 5, none⟩ (.bool td)).cell? ⟨w.heap.size, 8, none⟩ = some (t2) := by rw [cell_of_row _ _ 8 _ _ (0, 0) hU1_2.arg]; rfl
  have ld1_9 : ((Y1.setCell ⟨w.heap.size + 1 + 1, 4, none⟩ (.slice (some ⟨g1, 0, none⟩) m1 m1)).setCell ⟨w.heap.size + 1 + 1, 5, none⟩ (.bool td)).cell? ⟨w.heap.size, 9, none⟩ = some (t3) := by rw [cell_of_row _ _ 9 _ _ (0, 0) hU1_2.arg]; rfl
  clear K1 K0 K0y ab1 hb1 hT1 D1 hU1_0 hU1_1 hU1_2 hl1
  go_wp2_with fail
  clear st1_4 sf1_4 ld1_5 st1_5 sf1_5 ld1_6 ld1_7 ld1_8 ld1_9
  generalize ((Y1.setCell ⟨w.heap.size + 1 + 1, 4, none⟩ (.slice (some ⟨g1, 0, none⟩) m1 m1)).setCell ⟨w.heap.size + 1 + 1, 5, none⟩ (.bool td)) = X2 at *
  have hT2 := HV.out
  have K0 := L0.out
  have K1 := L1.out
  clear HV L0 L1
  refine (D2.out _ hT2.bel).mono ?_
  rintro e Y2 ⟨ya, yb, yc, yd, ye, yf, rfl, hk2, hb2⟩
  have K2 : KpX (w.heap.size + 1 + 1 + 1) Y2 fun F => P2 F [.int .i64 tk, .string tn, .slice ya yb yc, .slice yd ye yf] := fun F hF => hk2 F (hF.mono (by have := hT2.size; omega))
  clear hk2
  have K0y := K0.step (Above.of_below (B := (w.heap.size + 1 + 1 + 1)) hb2)
  have K1y := K1.step (Above.of_below (B := (w.heap.size + 1 + 1 + 1)) hb2)
  have hU2_0 := hT2.call hb2
  have st2_6 : Y2.cell? ⟨w.heap.size + 1 + 1, 6, none⟩ = some (.int .i64 0) := by rw [cell_of_row _ _ 6 _ _ (0, 0) hU2_0.out]; rfl
  have sf2_6 : Y2.frozen? ⟨w.heap.size + 1 + 1, 6, none⟩ = false := frozen_of_row _ _ 6 _ _ hU2_0.out
  have hU2_1 : ToB w (Y2.setCell ⟨w.heap.size + 1 + 1, 6, none⟩ (.int .i64 tk)) 59 43 #[.int .i64 kd, .string tx, .int .i64 ln, vp, vt, .bool td, t0, t1, t2, t3, x0, x1, x2, x3, x4, x5] #[.int .i64 0, .string ⟨#[]⟩, .int .i64 0, .slice none 0 0, .slice none 0 0, .bool false, .int .i64 0, .string ⟨#[]⟩, .slice none 0 0, .slice none 0 0, .int .i64 0, .string ⟨#[]⟩, .int .i64 0, .int .i64 0, .slice none 0 0, .slice none 0 0] #[.int .i64 kd, .string tx, .int .i64 ln, .slice (some ⟨g0, 0, none⟩) m0 m0, .slice (some ⟨g1, 0, none⟩) m1 m1, .bool td, .int .i64 tk, .string ⟨#[]⟩, .slice none 0 0, .slice none 0 0, .int .i64 0, .string ⟨#[]⟩, .int .i64 0, .int .i64 0, .slice none 0 0, .slice none 0 0] := hU2_0.set 6 _ (heap_setCell_same _ _ 6 _ _ _ hU2_0.out)
  have st2_7 : (Y2.setCell ⟨w.heap.size + 1 + 1, 6, none⟩ (.int .i64 tk)).cell? ⟨w.heap.size + 1 + 1, 7, none⟩ = some (.string ⟨#[]⟩) := by rw [cell_of_row _ _ 7 _ _ (0, 0) hU2_1.out]; rfl
  have sf2_7 : (Y2.setCell ⟨w.heap.size + 1 + 1, 6, none⟩ (.int .i64 tk)).frozen? ⟨w.heap.size + 1 + 1, 7, none⟩ = false := frozen_of_row _ _ 7 _ _ hU2_1.out
  have hU2_2 : ToB w ((Y2.setCell ⟨w.heap.size + 1 + 1, 6, none⟩ (.int .i64 tk)).setCell ⟨w.heap.size + 1 + 1, 7, none⟩ (.string tn)) 59 43 #[.int .i64 kd, .string tx, .int .i64 ln, vp, vt, .bool td, t0, t1, t2, t3, x0, x1, x2, x3, x4, x5] #[.int .i64 0, .string ⟨#[]⟩, .int .i64 0, .slice none 0 0, .slice none 0 0, .bool false, .int .i64 0, .string ⟨#[]⟩, .slice none 0 0, .slice none 0 0, .int .i64 0, .string ⟨#[]⟩, .int .i64 0, .int .i64 0, .slice none 0 0, .slice none 0 0] #[.int .i64 kd, .string tx, .int .i64 ln, .slice (some ⟨g0, 0, none⟩) m0 m0, .slice (some ⟨g1, 0, none⟩) m1 m1, .bool td, .int .i64 tk, .string tn, .slice none 0 0, .slice none 0 0, .int .i64 0, .string ⟨#[]⟩, .int .i64 0, .int .i64 0, .slice none 0 0, .slice none 0 0] := hU2_1.set 7 _ (heap_setCell_same _ _ 7 _ _ _ hU2_1.out)
  have st2_8 : ((Y2.setCell ⟨w.heap.size + 1 + 1, 6, none⟩ (.int .i64 tk)).setCell ⟨w.heap.size + 1 + 1, 7, none⟩ (.string tn)).cell? ⟨w.heap.size + 1 + 1, 8, none⟩ = some (.slice none 0 0) := by rw [cell_of_row _ _ 8 _ _ (0, 0) hU2_2.out]; rfl
  have sf2_8 : ((Y2.setCell ⟨w.heap.size + 1 + 1, 6, none⟩ (.int .i64 tk)).setCell ⟨w.heap.size + 1 + 1, 7, none⟩ (.string tn)).frozen? ⟨w.heap.size + 1 + 1, 8, none⟩ = false := frozen_of_row _ _ 8 _ _ hU2_2.out
  have hU2_3 : ToB w (((Y2.setCell ⟨w.heap.size + 1 + 1, 6, none⟩ (.int .i64 tk)).setCell ⟨w.heap.size + 1 + 1, 7, none⟩ (.string tn)).setCell ⟨w.heap.size + 1 + 1, 8, none⟩ (.slice ya yb yc)) 59 43 #[.int .i64 kd, .string tx, .int .i64 ln, vp, vt, .bool td, t0, t1, t2, t3, x0, x1, x2, x3, x4, x5] #[.int .i64 0, .string ⟨#[]⟩, .int .i64 0, .slice none 0 0, .slice none 0 0, .bool false, .int .i64 0, .string ⟨#[]⟩, .slice none 0 0, .slice none 0 0, .int .i64 0, .string ⟨#[]⟩, .int .i64 0, .int .i64 0, .slice none 0 0, .slice none 0 0] #[.int .i64 kd, .string tx, .int .i64 ln, .slice (some ⟨g0, 0, none⟩) m0 m0, .slice (some ⟨g1, 0, none⟩) m1 m1, .bool td, .int .i64 tk, .string tn, .slice ya yb yc, .slice none 0 0, .int .i64 0, .string ⟨#[]⟩, .int .i64 0, .int .i64 0, .slice none 0 0, .slice none 0 0] := hU2_2.set 8 _ (heap_setCell_same _ _ 8 _ _ _ hU2_2.out)
  have st2_9 : (((Y2.setCell ⟨w.heap.size + 1 + 1, 6, none⟩ (.int .i64 tk)).setCell ⟨w.heap.size + 1 + 1, 7, none⟩ (.string tn)).setCell ⟨w.heap.size + 1 + 1, 8, none⟩ (.slice ya yb yc)).cell? ⟨w.heap.size + 1 + 1, 9, none⟩ = some (.slice none 0 0) := by rw [cell_of_row _ _ 9 _ _ (0, 0) hU2_3.out]; rfl
  have sf2_9 : (((Y2.setCell ⟨w.heap.size + 1 + 1, 6, none⟩ (.int .i64 tk)).setCell ⟨w.heap.size + 1 + 1, 7, none⟩ (.string tn)).setCell ⟨w.heap.size + 1 + 1, 8, none⟩ (.slice ya yb yc)).frozen? ⟨w.heap.size + 1 + 1, 9, none⟩ = false := frozen_of_row _ _ 9 _ _ hU2_3.out
  have hU2_4 : ToB w ((((Y2.setCell ⟨w.heap.size + 1 + 1, 6, none⟩ (.int .i64 tk)).setCell ⟨w.heap.size + 1 + 1, 7, none⟩ (.string tn)).setCell ⟨w.heap.size + 1 + 1, 8, none⟩ (.slice ya yb yc)).setCell ⟨w.heap.size + 1 + 1, 9, none⟩ (.slice yd ye yf)) 59 43 #[.int .i64 kd, .string tx, .int .i64 ln, vp, vt, .bool td, t0, t1, t2, t3, x0, x1, x2, x3, x4, x5] #[.int .i64 0, .string ⟨#[]⟩, .int .i64 0, .slice none 0 0, .slice none 0 0, .bool false, .int .i64 0, .string ⟨#[]⟩, .slice none 0 0, .slice none 0 0, .int .i64 0, .string ⟨#[]⟩, .int .i64 0, .int .i64 0, .slice none 0 0, .slice none 0 0] #[.int .i64 kd, .string tx, .int .i64 ln, .slice (some ⟨g0, 0, none⟩) m0 m0, .slice (some ⟨g1, 0, none⟩) m1 m1, .bool td, .int .i64 tk, .string tn, .slice ya yb yc, .slice yd ye yf, .int .i64 0, .string ⟨#[]⟩, .int .i64 0, .int .i64 0, .slice none 0 0, .slice none 0 0] := hU2_3.set 9 _ (heap_setCell_same _ _ 9 _ _ _ hU2_3.out)
  have ab2 : Above (w.heap.size + 1 + 1 + 1) Y2 ((((Y2.setCell ⟨w.heap.size + 1 + 1, 6, none⟩ (.int .i64 tk)).setCell ⟨w.heap.size + 1 + 1, 7, none⟩ (.string tn)).setCell ⟨w.heap.size + 1 + 1, 8, none⟩ (.slice ya yb yc)).setCell ⟨w.heap.size + 1 + 1, 9, none⟩ (.slice yd ye yf)) := by
    exact (Above.trans (Above.trans (Above.trans (Above.trans (Above.refl _ _) (Above.set _ _ _ (by show w.heap.size + 1 + 1 < _; omega))) (Above.set _ _ _ (by show w.heap.size + 1 + 1 < _; omega))) (Above.set _ _ _ (by show w.heap.size + 1 + 1 < _; omega))) (Above.set _ _ _ (by show w.heap.size + 1 + 1 < _; omega)))
  have L0 : Hid (type_of% (K0y.step ab2)) := K0y.step ab2
  have L1 : Hid (type_of% (K1y.step ab2)) := K1y.step ab2
  have L2 : Hid (type_of% (K2.step ab2)) := K2.step ab2
  have HV : Hid (type_of% hU2_4) := hU2_4
  have ld2_10 : ((((Y2.setCell ⟨w.heap.size + 1 + 1, 6, none⟩ (.int .i64 tk)).setCell ⟨w.heap.size + 1 + 1, 7, none⟩ (.string tn)).setCell ⟨w.heap.size + 1 + 1, 8, none⟩ (.slice ya yb yc)).setCell ⟨w.heap.size + 1 + 1, 9, none⟩ (.slice yd ye yf)).cell? ⟨w.heap.size, 10, none⟩ = some (x0) := by rw [cell_of_row _ _ 10 _ _ (0, 0) hU2_4.arg]; rfl
  have ld2_11 : ((((Y2.setCell ⟨w.heap.size + 1 + 1, 6, none⟩ (.int .i64 tk)).setCell ⟨w.heap.size + 1 + 1, 7, none⟩ (.string tn)).setCell ⟨w.heap.size + 1 + 1, 8, none⟩ (.slice ya yb yc)).setCell ⟨w.heap.size + 1 + 1, 9, none⟩ (.slice yd ye yf)).cell? ⟨w.heap.size, 11, none⟩ = some (x1) := by rw [cell_of_row _ _ 11 _ _ (0, 0) hU2_4.arg]; rfl
  have ld2_12 : ((((Y2.setCell ⟨w.heap.size + 1 + 1, 6, none⟩ (.int .i64 tk)).setCell ⟨w.heap.size + 1 + 1, 7, none⟩ (.string tn)).setCell ⟨w.heap.size + 1 + 1, 8, none⟩ (.slice ya yb yc)).setCell ⟨w.heap.size + 1 + 1, 9, none⟩ (.slice yd ye yf)).cell? ⟨w.heap.size, 12, none⟩ = some (x2) := by rw [cell_of_row _ _ 12 _ _ (0, 0) hU2_4.arg]; rfl
  have ld2_13 : ((((Y2.setCell ⟨w.heap.size + 1 + 1, 6, none⟩ (.int .i64 tk)).setCell ⟨w.heap.size + 1 + 1, 7, none⟩ (.string tn)).setCell ⟨w.heap.size + 1 + 1, 8, none⟩ (.slice ya yb yc)).setCell ⟨w.heap.size + 1 + 1, 9, none⟩ (.slice yd ye yf)).cell? ⟨w.heap.size, 13, none⟩ = some (x3) := by rw [cell_of_row _ _ 13 _ _ (0, 0) hU2_4.arg]; rfl
  have ld2_14 : ((((Y2.setCell ⟨w.heap.size + 1 + 1, 6, none⟩ (.int .i64 tk)).setCell ⟨w.heap.size + 1 + 1, 7, none⟩ (.string tn)).setCell ⟨w.heap.size + 1 + 1, 8, none⟩ (.slice ya yb yc)).setCell ⟨w.heap.size + 1 + 1, 9, none⟩ (.slice yd ye yf)).cell? ⟨w.heap.size, 14, none⟩ = some (x4) := by rw [cell_of_row _ _ 14 _ _ (0, 0) hU2_4.arg]; rfl
  have ld2_15 : ((((Y2.setCell ⟨w.heap.size + 1 + 1, 6, none⟩ (.int .i64 tk)).setCell ⟨w.heap.size + 1 + 1, 7, none⟩ (.string tn)).setCell ⟨w.heap.size + 1 + 1, 8, none⟩ (.slice ya yb yc)).setCell ⟨w.heap.size + 1 + 1, 9, none⟩ (.slice yd ye yf)).cell? ⟨w.heap.size, 15, none⟩ = some (x5) := by rw [cell_of_row _ _ 15 _ _ (0, 0) hU2_4.arg]; rfl
  clear K2 K0 K0y K1 K1y ab2 hb2 hT2 D2 hU2_0 hU2_1 hU2_2 hU2_3 hU2_4
  go_wp2_with fail
  clear st2_6 sf2_6 st2_7 sf2_7 st2_8 sf2_8 st2_9 sf2_9 ld2_10 ld2_11 ld2_12 ld2_13 ld2_14 ld2_15
  generalize ((((Y2.setCell ⟨w.heap.size + 1 + 1, 6, none⟩ (.int .i64 tk)).setCell ⟨w.heap.size + 1 + 1, 7, none⟩ (.string tn)).setCell ⟨w.heap.size + 1 + 1, 8, none⟩ (.slice ya yb yc)).setCell ⟨w.heap.size + 1 + 1, 9, none⟩ (.slice yd ye yf)) = X3 at *
  have hT3 := HV.out
  have K0 := L0.out
  have K1 := L1.out
  have K2 := L2.out
  clear HV L0 L1 L2
  refine (D3.out _ hT3.bel).mono ?_
  rintro e Y3 ⟨za, zb, zc, zd, ze, zf, rfl, hk3, hb3⟩
  have K3 : KpX (w.heap.size + 1 + 1 + 1) Y3 fun F => P3 F [.int .i64 ek, .string et, .int .i64 en, .int .i64 el, .slice za zb zc, .slice zd ze zf] := fun F hF => hk3 F (hF.mono (by have := hT3.size; omega))
  clear hk3
  have K0y := K0.step (Above.of_below (B := (w.heap.size + 1 + 1 + 1)) hb3)
  have K1y := K1.step (Above.of_below (B := (w.heap.size + 1 + 1 + 1)) hb3)
  have K2y := K2.step (Above.of_below (B := (w.heap.size + 1 + 1 + 1)) hb3)
  have hU3_0 := hT3.call hb3
  have st3_10 : Y3.cell? ⟨w.heap.size + 1 + 1, 10, none⟩ = some (.int .i64 0) := by rw [cell_of_row _ _ 10 _ _ (0, 0) hU3_0.out]; rfl
  have sf3_10 : Y3.frozen? ⟨w.heap.size + 1 + 1, 10, none⟩ = false := frozen_of_row _ _ 10 _ _ hU3_0.out
  have hU3_1 : ToB w (Y3.setCell ⟨w.heap.size + 1 + 1, 10, none⟩ (.int .i64 ek)) 59 43 #[.int .i64 kd, .string tx, .int .i64 ln, vp, vt, .bool td, t0, t1, t2, t3, x0, x1, x2, x3, x4, x5] #[.int .i64 0, .string ⟨#[]⟩, .int .i64 0, .slice none 0 0, .slice none 0 0, .bool false, .int .i64 0, .string ⟨#[]⟩, .slice none 0 0, .slice none 0 0, .int .i64 0, .string ⟨#[]⟩, .int .i64 0, .int .i64 0, .slice none 0 0, .slice none 0 0] #[.int .i64 kd, .string tx, .int .i64 ln, .slice (some ⟨g0, 0, none⟩) m0 m0, .slice (some ⟨g1, 0, none⟩) m1 m1, .bool td, .int .i64 tk, .string tn, .slice ya yb yc, .slice yd ye yf, .int .i64 ek, .string ⟨#[]⟩, .int .i64 0, .int .i64 0, .slice none 0 0, .slice none 0 0] := hU3_0.set 10 _ (heap_setCell_same _ _ 10 _ _ _ hU3_0.out)
  have st3_11 : (Y3.setCell ⟨w.heap.size + 1 + 1, 10, none⟩ (.int .i64 ek)).cell? ⟨w.heap.size + 1 + 1, 11, none⟩ = some (.string ⟨#[]⟩) := by rw [cell_of_row _ _ 11 _ _ (0, 0) hU3_1.out]; rfl
  have sf3_11 : (Y3.setCell ⟨w.heap.size + 1 + 1, 10, none⟩ (.int .i64 ek)).frozen? ⟨w.heap.size + 1 + 1, 11, none⟩ = false := frozen_of_row _ _ 11 _ _ hU3_1.out
  have hU3_2 : ToB w ((Y3.setCell ⟨w.heap.size + 1 + 1, 10, none⟩ (.int .i64 ek)).setCell ⟨w.heap.size + 1 + 1, 11, none⟩ (.string et)) 59 43 #[.int .i64 kd, .string tx, .int .i64 ln, vp, vt, .bool td, t0, t1, t2, t3, x0, x1, x2, x3, x4, x5] #[.int .i64 0, .string ⟨#[]⟩, .int .i64 0, .slice none 0 0, .slice none 0 0, .bool false, .int .i64 0, .string ⟨#[]⟩, .slice none 0 0, .slice none 0 0, .int .i64 0, .string ⟨#[]⟩, .int .i64 0, .int .i64 0, .slice none 0 0, .slice none 0 0] #[.int .i64 kd, .string tx, .int .i64 ln, .slice (some ⟨g0, 0, none⟩) m0 m0, .slice (some ⟨g1, 0, none⟩) m1 m1, .bool td, .int .i64 tk, .string tn, .slice ya yb yc, .slice yd ye yf, .int .i64 ek, .string et, .int .i64 0, .int .i64 0, .slice none 0 0, .slice none 0 0] := hU3_1.set 11 _ (heap_setCell_same _ _ 11 _ _ _ hU3_1.out)
  have st3_12 : ((Y3.setCell ⟨w.heap.size + 1 + 1, 10, none⟩ (.int .i64 ek)).setCell ⟨w.heap.size + 1 + 1, 11, none⟩ (.string et)).cell? ⟨w.heap.size + 1 + 1, 12, none⟩ = some (.int .i64 0) := by rw [cell_of_row _ _ 12 _ _ (0, 0) hU3_2.out]; rfl
  have sf3_12 : ((Y3.setCell ⟨w.heap.size + 1 + 1, 10, none⟩ (.int .i64 ek)).setCell ⟨w.heap.size + 1 + 1, 11, none⟩ (.string et)).frozen? ⟨w.heap.size + 1 + 1, 12, none⟩ = false := frozen_of_row _ _ 12 _ _ hU3_2.out
  have hU3_3 : ToB w (((Y3.setCell ⟨w.heap.size + 1 + 1, 10, none⟩ (.int .i64 ek)).setCell ⟨w.heap.size + 1 + 1, 11, none⟩ (.string et)).setCell ⟨w.heap.size + 1 + 1, 12, none⟩ (.int .i64 en)) 59 43 #[.int .i64 kd, .string tx, .int .i64 ln, vp, vt, .bool td, t0, t1, t2, t3, x0, x1, x2, x3, x4, x5] #[.int .i64 0, .string ⟨#[]⟩, .int .i64 0, .slice none 0 0, .slice none 0 0, .bool false, .int .i64 0, .string ⟨#[]⟩, .slice none 0 0, .slice none 0 0, .int .i64 0, .string ⟨#[]⟩, .int .i64 0, .int .i64 0, .slice none 0 0, .slice none 0 0] #[.int .i64 kd, .string tx, .int .i64 ln, .slice (some ⟨g0, 0, none⟩) m0 m0, .slice (some ⟨g1, 0, none⟩) m1 m1, .bool td, .int .i64 tk, .string tn, .slice ya yb yc, .slice yd ye yf, .int .i64 ek, .string et, .int .i64 en, .int .i64 0, .slice none 0 0, .slice none 0 0] := hU3_2.set 12 _ (heap_setCell_same _ _ 12 _ _ _ hU3_2.out)
  have st3_13 : (((Y3.setCell ⟨w.heap.size + 1 + 1, 10, none⟩ (.int .i64 ek)).setCell ⟨w.heap.size + 1 + 1, 11, none⟩ (.string et)).setCell ⟨w.heap.size + 1 + 1, 12, none⟩ (.int .i64 en)).cell? ⟨w.heap.size + 1 + 1, 13, none⟩ = some (.int .i64 0) := by rw [cell_of_row _ _ 13 _ _ (0, 0) hU3_3.out]; rfl
  have sf3_13 : (((Y3.setCell ⟨w.heap.size + 1 + 1, 10, none⟩ (.int .i64 ek)).setCell ⟨w.heap.size + 1 + 1, 11, none⟩ (.string et)).setCell ⟨w.heap.size + 1 + 1, 12, none⟩ (.int .i64 en)).frozen? ⟨w.heap.size + 1 + 1, 13, none⟩ = false := frozen_of_row _ _ 13 _ _ hU3_3.out
  have hU3_4 : ToB w ((((Y3.setCell ⟨w.heap.size + 1 + 1, 10, none⟩ (.int .i64 ek)).setCell ⟨w.heap.size + 1 + 1, 11, none⟩ (.string et)).setCell ⟨w.heap.size + 1 + 1, 12, none⟩ (.int .i64 en)).setCell ⟨w.heap.size + 1 + 1, 13, none⟩ (.int .i64 el)) 59 43 #[.int .i64 kd, .string tx, .int .i64 ln, vp, vt, .bool td, t0, t1, t2, t3, x0, x1, x2, x3, x4, x5] #[.int .i64 0, .string ⟨#[]⟩, .int .i64 0, .slice none 0 0, .slice none 0 0, .bool false, .int .i64 0, .string ⟨#[]⟩, .slice none 0 0, .slice none 0 0, .int .i64 0, .string ⟨#[]⟩, .int .i64 0, .int .i64 0, .slice none 0 0, .slice none 0 0] #[.int .i64 kd, .string tx, .int .i64 ln, .slice (some ⟨g0, 0, none⟩) m0 m0, .slice (some ⟨g1, 0, none⟩) m1 m1, .bool td, .int .i64 tk, .string tn, .slice ya yb yc, .slice yd ye yf, .int .i64 ek, .string et, .int .i64 en, .int .i64 el, .slice none 0 0, .slice none 0 0] := hU3_3.set 13 _ (heap_setCell_same _ _ 13 _ _ _ hU3_3.out)
  have st3_14 : ((((Y3.setCell ⟨w.heap.size + 1 + 1, 10, none⟩ (.int .i64 ek)).setCell ⟨w.heap.size + 1 + 1, 11, none⟩ (.string et)).setCell ⟨w.heap.size + 1 + 1, 12, none⟩ (.int .i64 en)).setCell ⟨w.heap.size + 1 + 1, 13, none⟩ (.int .i64 el)).cell? ⟨w.heap.size + 1 + 1, 14, none⟩ = some (.slice none 0 0) := by rw [cell_of_row _ _ 14 _ _ (0, 0) hU3_4.out]; rfl
  have sf3_14 : ((((Y3.setCell ⟨w.heap.size + 1 + 1, 10, none⟩ (.int .i64 ek)).setCell ⟨w.heap.size + 1 + 1, 11, none⟩ (.string et)).setCell ⟨w.heap.size + 1 + 1, 12, none⟩ (.int .i64 en)).setCell ⟨w.heap.size + 1 + 1, 13, none⟩ (.int .i64 el)).frozen? ⟨w.heap.size + 1 + 1, 14, none⟩ = false := frozen_of_row _ _ 14 _ _ hU3_4.out
  have hU3_5 : ToB w (((((Y3.setCell ⟨w.heap.size + 1 + 1, 10, none⟩ (.int .i64 ek)).setCell ⟨w.heap.size + 1 + 1, 11, none⟩ (.string et)).setCell ⟨w.heap.size + 1 + 1, 12, none⟩ (.int .i64 en)).setCell ⟨w.heap.size + 1 + 1, 13, none⟩ (.int .i64 el)).setCell ⟨w.heap.size + 1 + 1, 14, none⟩ (.slice za zb zc)) 59 43 #[.int .i64 kd, .string tx, .int .i64 ln, vp, vt, .bool td, t0, t1, t2, t3, x0, x1, x2, x3, x4, x5] #[.int .i64 0, .string ⟨#[]⟩, .int .i64 0, .slice none 0 0, .slice none 0 0, .bool false, .int .i64 0, .string ⟨#[]⟩, .slice none 0 0, .slice none 0 0, .int .i64 0, .string ⟨#[]⟩, .int .i64 0, .int .i64 0, .slice none 0 0, .slice none 0 0] #[.int .i64 kd, .string tx, .int .i64 ln, .slice (some ⟨g0, 0, none⟩) m0 m0, .slice (some ⟨g1, 0, none⟩) m1 m1, .bool td, .int .i64 tk, .string tn, .slice ya yb yc, .slice yd ye yf, .int .i64 ek, .string et, .int .i64 en, .int .i64 el, .slice za zb zc, .slice none 0 0] := hU3_4.set 14 _ (heap_setCell_same _ _ 14 _ _ _ hU3_4.out)
  have st3_15 : (((((Y3.setCell ⟨w.heap.size + 1 + 1, 10, none⟩ (.int .i64 ek)).setCell ⟨w.heap.size + 1 + 1, 11, none⟩ (.string et)).setCell ⟨w.heap.size + 1 + 1, 12, none⟩ (.int .i64 en)).setCell ⟨w.heap.size + 1 + 1, 13, none⟩ (.int .i64 el)).setCell ⟨w.heap.size + 1 + 1, 14, none⟩ (.slice za zb zc)).cell? ⟨w.heap.size + 1 + 1, 15, none⟩ = some (.slice none 0 0) := by rw [cell_of_row _ _ 15 _ _ (0, 0) hU3_5.out]; rfl
  have sf3_15 : (((((Y3.setCell ⟨w.heap.size + 1 + 1, 10, none⟩ (.int .i64 ek)).setCell ⟨w.heap.size + 1 + 1, 11, none⟩ (.string et)).setCell ⟨w.heap.size + 1 + 1, 12, none⟩ (.int .i64 en)).setCell ⟨w.heap.size + 1 + 1, 13, none⟩ (.int .i64 el)).setCell ⟨w.heap.size + 1 + 1, 14, none⟩ (.slice za zb zc)).frozen? ⟨w.heap.size + 1 + 1, 15, none⟩ = false := frozen_of_row _ _ 15 _ _ hU3_5.out
  have hU3_6 : ToB w ((((((Y3.setCell ⟨w.heap.size + 1 + 1, 10, none⟩ (.int .i64 ek)).setCell ⟨w.heap.size + 1 + 1, 11, none⟩ (.string et)).setCell ⟨w.heap.size + 1 + 1, 12, none⟩ (.int .i64 en)).setCell ⟨w.heap.size + 1 + 1, 13, none⟩ (.int .i64 el)).setCell ⟨w.heap.size + 1 + 1, 14, none⟩ (.slice za zb zc)).setCell ⟨w.heap.size + 1 + 1, 15, none⟩ (.slice zd ze zf)) 59 43 #[.int .i64 kd, .string tx, .int .i64 ln, vp, vt, .bool td, t0, t1, t2, t3, x0, x1, x2, x3, x4, x5] #[.int .i64 0, .string ⟨#[]⟩, .int .i64 0, .slice none 0 0, .slice none 0 0, .bool false, .int .i64 0, .string ⟨#[]⟩, .slice none 0 0, .slice none 0 0, .int .i64 0, .string ⟨#[]⟩, .int .i64 0, .int .i64 0, .slice none 0 0, .slice none 0 0] #[.int .i64 kd, .string tx, .int .i64 ln, .slice (some ⟨g0, 0, none⟩) m0 m0, .slice (some ⟨g1, 0, none⟩) m1 m1, .bool td, .int .i64 tk, .string tn, .slice ya yb yc, .slice yd ye yf, .int .i64 ek, .string et, .int .i64 en, .int .i64 el, .slice za zb zc, .slice zd ze zf] := hU3_5.set 15 _ (heap_setCell_same _ _ 15 _ _ _ hU3_5.out)
  have ab3 : Above (w.heap.size + 1 + 1 + 1) Y3 ((((((Y3.setCell ⟨w.heap.size + 1 + 1, 10, none⟩ (.int .i64 ek)).setCell ⟨w.heap.size + 1 + 1, 11, none⟩ (.string et)).setCell ⟨w.heap.size + 1 + 1, 12, none⟩ (.int .i64 en)).setCell ⟨w.heap.size + 1 + 1, 13, none⟩ (.int .i64 el)).setCell ⟨w.heap.size + 1 + 1, 14, none⟩ (.slice za zb zc)).setCell ⟨w.heap.size + 1 + 1, 15, none⟩ (.slice zd ze zf)) := by
    exact (Above.trans (Above.trans (Above.trans (Above.trans (Above.trans (Above.trans (Above.refl _ _) (Above.set _ _ _ (by show w.heap.size + 1 + 1 < _; omega))) (Above.set _ _ _ (by show w.heap.size + 1 + 1 < _; omega))) (Above.set _ _ _ (by show w.heap.size + 1 + 1 < _; omega))) (Above.set _ _ _ (by show w.heap.size + 1 + 1 < _; omega))) (Above.set _ _ _ (by show w.heap.size + 1 + 1 < _; omega))) (Above.set _ _ _ (by show w.heap.size + 1 + 1 < _; omega)))
  have L0 : Hid (type_of% (K0y.step ab3)) := K0y.step ab3
  have L1 : Hid (type_of% (K1y.step ab3)) := K1y.step ab3
  have L2 : Hid (type_of% (K2y.step ab3)) := K2y.step ab3
  have L3 : Hid (type_of% (K3.step ab3)) := K3.step ab3
  have HV : Hid (type_of% hU3_6) := hU3_6
  have ld3_0 : ((((((Y3.setCell ⟨w.heap.size + 1 + 1, 10, none⟩ (.int .i64 ek)).setCell ⟨w.heap.size + 1 + 1, 11, none⟩ (.string et)).setCell ⟨w.heap.size + 1 + 1, 12, none⟩ (.int .i64 en)).setCell ⟨w.heap.size + 1 + 1, 13, none⟩ (.int .i64 el)).setCell ⟨w.heap.size + 1 + 1, 14, none⟩ (.slice za zb zc)).setCell ⟨w.heap.size + 1 + 1, 15, none⟩ (.slice zd ze zf)).cell? ⟨w.heap.size + 1 + 1, 0, none⟩ = some (.int .i64 kd) := by rw [cell_of_row _ _ 0 _ _ (0, 0) hU3_6.out]; rfl
  have rs3_0 : ((((((Y3.setCell ⟨w.heap.size + 1 + 1, 10, none⟩ (.int .i64 ek)).setCell ⟨w.heap.size + 1 + 1, 11, none⟩ (.string et)).setCell ⟨w.heap.size + 1 + 1, 12, none⟩ (.int .i64 en)).setCell ⟨w.heap.size + 1 + 1, 13, none⟩ (.int .i64 el)).setCell ⟨w.heap.size + 1 + 1, 14, none⟩ (.slice za zb zc)).setCell ⟨w.heap.size + 1 + 1, 15, none⟩ (.slice zd ze zf)).cell? ⟨w.heap.size + 1, 0, none⟩ = some (.int .i64 0) := by rw [cell_of_row _ _ 0 _ _ (0, 0) hU3_6.res]; rfl
  have rf3_0 : ((((((Y3.setCell ⟨w.heap.size + 1 + 1, 10, none⟩ (.int .i64 ek)).setCell ⟨w.heap.size + 1 + 1, 11, none⟩ (.string et)).setCell ⟨w.heap.size + 1 + 1, 12, none⟩ (.int .i64 en)).setCell ⟨w.heap.size + 1 + 1, 13, none⟩ (.int .i64 el)).setCell ⟨w.heap.size + 1 + 1, 14, none⟩ (.slice za zb zc)).setCell ⟨w.heap.size + 1 + 1, 15, none⟩ (.slice zd ze zf)).frozen? ⟨w.heap.size + 1, 0, none⟩ = false := frozen_of_row _ _ 0 _ _ hU3_6.res
  have ld3_1 : ((((((Y3.setCell ⟨w.heap.size + 1 + 1, 10, none⟩ (.int .i64 ek)).setCell ⟨w.heap.size + 1 + 1, 11, none⟩ (.string et)).setCell ⟨w.heap.size + 1 + 1, 12, none⟩ (.int .i64 en)).setCell ⟨w.heap.size + 1 + 1, 13, none⟩ (.int .i64 el)).setCell ⟨w.heap.size + 1 + 1, 14, none⟩ (.slice za zb zc)).setCell ⟨w.heap.size + 1 + 1, 15, none⟩ (.slice zd ze zf)).cell? ⟨w.heap.size + 1 + 1, 1, none⟩ = some (.string tx) := by rw [cell_of_row _ _ 1 _ _ (0, 0) hU3_6.out]; rfl
  have rs3_1 : ((((((Y3.setCell ⟨w.heap.size + 1 + 1, 10, none⟩ (.int .i64 ek)).setCell ⟨w.heap.size + 1 + 1, 11, none⟩ (.string et)).setCell ⟨w.heap.size + 1 + 1, 12, none⟩ (.int .i64 en)).setCell ⟨w.heap.size + 1 + 1, 13, none⟩ (.int .i64 el)).setCell ⟨w.heap.size + 1 + 1, 14, none⟩ (.slice za zb zc)).setCell ⟨w.heap.size + 1 + 1, 15, none⟩ (.slice zd ze zf)).cell? ⟨w.heap.size + 1, 1, none⟩ = some (.string ⟨#[]⟩) := by rw [cell_of_row _ _ 1 _ _ (0, 0) hU3_6.res]; rfl
  have rf3_1 : ((((((Y3.setCell ⟨w.heap.size + 1 + 1, 10, none⟩ (.int .i64 ek)).setCell ⟨w.heap.size + 1 + 1, 11, none⟩ (.string et)).setCell ⟨w.heap.size + 1 + 1, 12, none⟩ (.int .i64 en)).setCell ⟨w.heap.size + 1 + 1, 13, none⟩ (.int .i64 el)).setCell ⟨w.heap.size + 1 + 1, 14, none⟩ (.slice za zb zc)).setCell ⟨w.heap.size + 1 + 1, 15, none⟩ (.slice zd ze zf)).frozen? ⟨w.heap.size + 1, 1, none⟩ = false := frozen_of_row _ _ 1 _ _ hU3_6.res
  have ld3_2 : ((((((Y3.setCell ⟨w.heap.size + 1 + 1, 10, none⟩ (.int .i64 ek)).setCell ⟨w.heap.size + 1 + 1, 11, none⟩ (.string et)).setCell ⟨w.heap.size + 1 + 1, 12, none⟩ (.int .i64 en)).setCell ⟨w.heap.size + 1 + 1, 13, none⟩ (.int .i64 el)).setCell ⟨w.heap.size + 1 + 1, 14, none⟩ (.slice za zb zc)).setCell ⟨w.heap.size + 1 + 1, 15, none⟩ (.slice zd ze zf)).cell? ⟨w.heap.size + 1 + 1, 2, none⟩ = some (.int .i64 ln) := by rw [cell_of_row _ _ 2 _ _ (0, 0) hU3_6.out]; rfl
  have rs3_2 : ((((((Y3.setCell ⟨w.heap.size + 1 + 1, 10, none⟩ (.int .i64 ek)).setCell ⟨w.heap.size + 1 + 1, 11, none⟩ (.string et)).setCell ⟨w.heap.size + 1 + 1, 12, none⟩ (.int .i64 en)).setCell ⟨w.heap.size + 1 + 1, 13, none⟩ (.int .i64 el)).setCell ⟨w.heap.size + 1 + 1, 14, none⟩ (.slice za zb zc)).setCell ⟨w.heap.size + 1 + 1, 15, none⟩ (.slice zd ze zf)).cell? ⟨w.heap.size + 1, 2, none⟩ = some (.int .i64 0) := by rw [cell_of_row _ _ 2 _ _ (0, 0) hU3_6.res]; rfl
  have rf3_2 : ((((((Y3.setCell ⟨w.heap.size + 1 + 1, 10, none⟩ (.int .i64 ek)).setCell ⟨w.heap.size + 1 + 1, 11, none⟩ (.string et)).setCell ⟨w.heap.size + 1 + 1, 12, none⟩ (.int .i64 en)).setCell ⟨w.heap.size + 1 + 1, 13, none⟩ (.int .i64 el)).setCell ⟨w.heap.size + 1 + 1, 14, none⟩ (.slice za zb zc)).setCell ⟨w.heap.size + 1 + 1, 15, none⟩ (.slice zd ze zf)).frozen? ⟨w.heap.size + 1, 2, none⟩ = false := frozen_of_row _ _ 2 _ _ hU3_6.res
  have ld3_3 : ((((((Y3.setCell ⟨w.heap.size + 1 + 1, 10, none⟩ (.int .i64 ek)).setCell ⟨w.heap.size + 1 + 1, 11, none⟩ (.string et)).setCell ⟨w.heap.size + 1 + 1, 12, none⟩ (.int .i64 en)).setCell ⟨w.heap.size + 1 + 1, 13, none⟩ (.int .i64 el)).setCell ⟨w.heap.size + 1 + 1, 14, none⟩ (.slice za zb zc)).setCell ⟨w.heap.size + 1 + 1, 15, none⟩ (.slice zd ze zf)).cell? ⟨w.heap.size + 1 + 1, 3, none⟩ = some (.slice (some ⟨g0, 0, none⟩) m0 m0) := by rw [cell_of_row _ _ 3 _ _ (0, 0) hU3_6.out]; rfl
  have rs3_3 : ((((((Y3.setCell ⟨w.heap.size + 1 + 1, 10, none⟩ (.int .i64 ek)).setCell ⟨w.heap.size + 1 + 1, 11, none⟩ (.string et)).setCell ⟨w.heap.size + 1 + 1, 12, none⟩ (.int .i64 en)).setCell ⟨w.heap.size + 1 + 1, 13, none⟩ (.int .i64 el)).setCell ⟨w.heap.size + 1 + 1, 14, none⟩ (.slice za zb zc)).setCell ⟨w.heap.size + 1 + 1, 15, none⟩ (.slice zd ze zf)).cell? ⟨w.heap.size + 1, 3, none⟩ = some (.slice none 0 0) := by rw [cell_of_row _ _ 3 _ _ (0, 0) hU3_6.res]; rfl
  have rf3_3 : ((((((Y3.setCell ⟨w.heap.size + 1 + 1, 10, none⟩ (.int .i64 ek)).setCell ⟨w.heap.size + 1 + 1, 11, none⟩ (.string et)).setCell ⟨w.heap.size + 1 + 1, 12, none⟩ (.int .i64 en)).setCell ⟨w.heap.size + 1 + 1, 13, none⟩ (.int .i64 el)).setCell ⟨w.heap.size + 1 + 1, 14, none⟩ (.slice za zb zc)).setCell ⟨w.heap.size + 1 + 1, 15, none⟩ (.slice zd ze zf)).frozen? ⟨w.heap.size + 1, 3, none⟩ = false := frozen_of_row _ _ 3 _ _ hU3_6.res
  have ld3_4 : ((((((Y3.setCell ⟨w.heap.size + 1 + 1, 10, none⟩ (.int .i64 ek)).setCell ⟨w.heap.size + 1 + 1, 11, none⟩ (.string et)).setCell ⟨w.heap.size + 1 + 1, 12, none⟩ (.int .i64 en)).setCell ⟨w.heap.size + 1 + 1, 13, none⟩ (.int .i64 el)).setCell ⟨w.heap.size + 1 + 1, 14, none⟩ (.slice za zb zc)).setCell ⟨w.heap.size + 1 + 1, 15, none⟩ (.slice zd ze zf)).cell? ⟨w.heap.size + 1 + 1, 4, none⟩ = some (.slice (some ⟨g1, 0, none⟩) m1 m1) := by rw [cell_of_row _ _ 4 _ _ (0, 0) hU3_6.out]; rfl
  have rs3_4 : ((((((Y3.setCell ⟨w.heap.size + 1 + 1, 10, none⟩ (.int .i64 ek)).setCell ⟨w.heap.size + 1 + 1, 11, none⟩ (.string et)).setCell ⟨w.heap.size + 1 + 1, 12, none⟩ (.int .i64 en)).setCell ⟨w.heap.size + 1 + 1, 13, none⟩ (.int .i64 el)).setCell ⟨w.heap.size + 1 + 1, 14, none⟩ (.slice za zb zc)).setCell ⟨w.heap.size + 1 + 1, 15, none⟩ (.slice zd ze zf)).cell? ⟨w.heap.size + 1, 4, none⟩ = some (.slice none 0 0) := by rw [cell_of_row _ _ 4 _ _ (0, 0) hU3_6.res]; rfl
  have rf3_4 : ((((((Y3.setCell ⟨w.heap.size + 1 + 1, 10, none⟩ (.int .i64 ek)).setCell ⟨w.heap.size + 1 + 1, 11, none⟩ (.string et)).setCell ⟨w.heap.size + 1 + 1, 12, none⟩ (.int .i64 en)).setCell ⟨w.heap.size + 1 + 1, 13, none⟩ (.int .i64 el)).setCell ⟨w.heap.size + 1 + 1, 14, none⟩ (.slice za zb zc)).setCell ⟨w.heap.size + 1 + 1, 15, none⟩ (.slice zd ze zf)).frozen? ⟨w.heap.size + 1, 4, none⟩ = false := frozen_of_row _ _ 4 _ _ hU3_6.res
  have ld3_5 : ((((((Y3.setCell ⟨w.heap.size + 1 + 1, 10, none⟩ (.int .i64 ek)).setCell ⟨w.heap.size + 1 + 1, 11, none⟩ (.string et)).setCell ⟨w.heap.size + 1 + 1, 12, none⟩ (.int .i64 en)).setCell ⟨w.heap.size + 1 + 1, 13, none⟩ (.int .i64 el)).setCell ⟨w.heap.size + 1 + 1, 14, none⟩ (.slice za zb zc)).setCell ⟨w.heap.size + 1 + 1, 15, none⟩ (.slice zd ze zf)).cell? ⟨w.heap.size + 1 + 1, 5, none⟩ = some (.bool td) := by rw [cell_of_row _ _ 5 _ _ (0, 0) hU3_6.out]; rfl
  have rs3_5 : ((((((Y3.setCell ⟨w.heap.size + 1 + 1, 10, none⟩ (.int .i64 ek)).setCell ⟨w.heap.size + 1 + 1, 11, none⟩ (.string et)).setCell ⟨w.heap.size + 1 + 1, 12, none⟩ (.int .i64 en)).setCell ⟨w.heap.size + 1 + 1, 13, none⟩ (.int .i64 el)).setCell ⟨w.heap.size + 1 + 1, 14, none⟩ (.slice za zb zc)).setCell ⟨w.heap.size + 1 + 1, 15, none⟩ (.slice zd ze zf)).cell? ⟨w.heap.size + 1, 5, none⟩ = some (.bool false) := by rw [cell_of_row _ _ 5 _ _ (0, 0) hU3_6.res]; rfl
  have rf3_5 : ((((((Y3.setCell ⟨w.heap.size + 1 + 1, 10, none⟩ (.int .i64 ek)).setCell ⟨w.heap.size + 1 + 1, 11, none⟩ (.string et)).setCell ⟨w.heap.size + 1 + 1, 12, none⟩ (.int .i64 en)).setCell ⟨w.heap.size + 1 + 1, 13, none⟩ (.int .i64 el)).setCell ⟨w.heap.size + 1 + 1, 14, none⟩ (.slice za zb zc)).setCell ⟨w.heap.size + 1 + 1, 15, none⟩ (.slice zd ze zf)).frozen? ⟨w.heap.size + 1, 5, none⟩ = false := frozen_of_row _ _ 5 _ _ hU3_6.res
  have ld3_6 : ((((((Y3.setCell ⟨w.heap.size + 1 + 1, 10, none⟩ (.int .i64 ek)).setCell ⟨w.heap.size + 1 + 1, 11, none⟩ (.string et)).setCell ⟨w.heap.size + 1 + 1, 12, none⟩ (.int .i64 en)).setCell ⟨w.heap.size + 1 + 1, 13, none⟩ (.int .i64 el)).setCell ⟨w.heap.size + 1 + 1, 14, none⟩ (.slice za zb zc)).setCell ⟨w.heap.size + 1 + 1, 15, none⟩ (.slice zd ze zf)).cell? ⟨w.heap.size + 1 + 1, 6, none⟩ = some (.int .i64 tk) := by rw [cell_of_row _ _ 6 _ _ (0, 0) hU3_6.out]; rfl
  have rs3_6 : ((((((Y3.setCell ⟨w.heap.size + 1 + 1, 10, none⟩ (.int .i64 ek)).setCell ⟨w.heap.size + 1 + 1, 11, none⟩ (.string et)).setCell ⟨w.heap.size + 1 + 1, 12, none⟩ (.int .i64 en)).setCell ⟨w.heap.size + 1 + 1, 13, none⟩ (.int .i64 el)).setCell ⟨w.heap.size + 1 + 1, 14, none⟩ (.slice za zb zc)).setCell ⟨w.heap.size + 1 + 1, 15, none⟩ (.slice zd ze zf)).cell? ⟨w.heap.size + 1, 6, none⟩ = some (.int .i64 0) := by rw [cell_of_row _ _ 6 _ _ (0, 0) hU3_6.res]; rfl
  have rf3_6 : ((((((Y3.setCell ⟨w.heap.size + 1 + 1, 10, none⟩ (.int .i64 ek)).setCell ⟨w.heap.size + 1 + 1, 11, none⟩ (.string et)).setCell ⟨w.heap.size + 1 + 1, 12, none⟩ (.int .i64 en)).setCell ⟨w.heap.size + 1 + 1, 13, none⟩ (.int .i64 el)).setCell ⟨w.heap.size + 1 + 1, 14, none⟩ (.slice za zb zc)).setCell ⟨w.heap.size + 1 + 1, 15, none⟩ (.slice zd ze zf)).frozen? ⟨w.heap.size + 1, 6, none⟩ = false := frozen_of_row _ _ 6 _ _ hU3_6.res
  have ld3_7 : ((((((Y3.setCell ⟨w.heap.size + 1 + 1, 10, none⟩ (.int .i64 ek)).setCell ⟨w.heap.size + 1 + 1, 11, none⟩ (.string et)).setCell ⟨w.heap.size + 1 + 1, 12, none⟩ (.int .i64 en)).setCell ⟨w.heap.size + 1 + 1, 13, none⟩ (.int .i64 el)).setCell ⟨w.heap.size + 1 + 1, 14, none⟩ (.slice za zb zc)).setCell ⟨w.heap.size + 1 + 1, 15, none⟩ (.slice zd ze zf)).cell? ⟨w.heap.size + 1 + 1, 7, none⟩ = some (.string tn) := by rw [cell_of_row _ _ 7 _ _ (0, 0) hU3_6.out]; rfl
  have rs3_7 : ((((((Y3.setCell ⟨w.heap.size + 1 + 1, 10, none⟩ (.int .i64 ek)).setCell ⟨w.heap.size + 1 + 1, 11, none⟩ (.string et)).setCell ⟨w.heap.size + 1 + 1, 12, none⟩ (.int .i64 en)).setCell ⟨w.heap.size + 1 + 1, 13, none⟩ (.int .i64 el)).setCell ⟨w.heap.size + 1 + 1, 14, none⟩ (.slice za zb zc)).setCell ⟨w.heap.size + 1 + 1, 15, none⟩ (.slice zd ze zf)).cell? ⟨w.heap.size + 1, 7, none⟩ = some (.string ⟨#[]⟩) := by rw [cell_of_row _ _ 7 _ _ (0, 0) hU3_6.res]; rfl
  have rf3_7 : ((((((Y3.setCell ⟨w.heap.size + 1 + 1, 10, none⟩ (.int .i64 ek)).setCell ⟨w.heap.size + 1 + 1, 11, none⟩ (.string et)).setCell ⟨w.heap.size + 1 + 1, 12, none⟩ (.int .i64 en)).setCell ⟨w.heap.size + 1 + 1, 13, none⟩ (.int .i64 el)).setCell ⟨w.heap.size + 1 + 1, 14, none⟩ (.slice za zb zc)).setCell ⟨w.heap.size + 1 + 1, 15, none⟩ (.slice zd ze zf)).frozen? ⟨w.heap.size + 1, 7, none⟩ = false := frozen_of_row _ _ 7 _ _ hU3_6.res
  have ld3_8 : ((((((Y3.setCell ⟨w.heap.size + 1 + 1, 10, none⟩ (.int .i64 ek)).setCell ⟨w.heap.size + 1 + 1, 11, none⟩ (.string et)).setCell ⟨w.heap.size + 1 + 1, 12, none⟩ (.int .i64 en)).setCell ⟨w.heap.size + 1 + 1, 13, none⟩ (.int .i64 el)).setCell ⟨w.heap.size + 1 + 1, 14, none⟩ (.slice za zb zc)).setCell ⟨w.heap.size + 1 + 1, 15, none⟩ (.slice zd ze zf)).cell? ⟨w.heap.size + 1 + 1, 8, none⟩ = some (.slice ya yb yc) := by rw [cell_of_row _ _ 8 _ _ (0, 0) hU3_6.out]; rfl
  have rs3_8 : ((((((Y3.setCell ⟨w.heap.size + 1 + 1, 10, none⟩ (.int .i64 ek)).setCell ⟨w.heap.size + 1 + 1, 11, none⟩ (.string et)).setCell ⟨w.heap.size + 1 + 1, 12, none⟩ (.int .i64 en)).setCell ⟨w.heap.size + 1 + 1, 13, none⟩ (.int .i64 el)).setCell ⟨w.heap.size + 1 + 1, 14, none⟩ (.slice za zb zc)).setCell ⟨w.heap.size + 1 + 1, 15, none⟩ (.slice zd ze zf)).cell? ⟨w.heap.size + 1, 8, none⟩ = some (.slice none 0 0) := by rw [cell_of_row _ _ 8 _ _ (0, 0) hU3_6.res]; rfl
  have rf3_8 : ((((((Y3.setCell ⟨w.heap.size + 1 + 1, 10, none⟩ (.int .i64 ek)).setCell ⟨w.heap.size + 1 + 1, 11, none⟩ (.string et)).setCell ⟨w.heap.size + 1 + 1, 12, none⟩ (.int .i64 en)).setCell ⟨w.heap.size + 1 + 1, 13, none⟩ (.int .i64 el)).setCell ⟨w.heap.size + 1 + 1, 14, none⟩ (.slice za zb zc)).setCell ⟨w.heap.size + 1 + 1, 15, none⟩ (.slice zd ze zf)).frozen? ⟨w.heap.size + 1, 8, none⟩ = false := frozen_of_row _ _ 8 _ _ hU3_6.res
  have ld3_9 : ((((((Y3.setCell ⟨w.heap.size + 1 + 1, 10, none⟩ (.int .i64 ek)).setCell ⟨w.heap.size + 1 + 1, 11, none⟩ (.string et)).setCell ⟨w.heap.size + 1 + 1, 12, none⟩ (.int .i64 en)).setCell ⟨w.heap.size + 1 + 1, 13, none⟩ (.int .i64 el)).setCell ⟨w.heap.size + 1 + 1, 14, none⟩ (.slice za zb zc)).setCell ⟨w.heap.size + 1 + 1, 15, none⟩ (.slice zd ze zf)).cell? ⟨w.heap.size + 1 + 1, 9, none⟩ = some (.slice yd ye yf) := by rw [cell_of_row _ _ 9 _ _ (0, 0) hU3_6.out]; rfl
  have rs3_9 : ((((((Y3.setCell ⟨w.heap.size + 1 + 1, 10, none⟩ (.int .i64 ek)).setCell ⟨w.heap.size + 1 + 1, 11, none⟩ (.string et)).setCell ⟨w.heap.size + 1 + 1, 12, none⟩ (.int .i64 en)).setCell ⟨w.heap.size + 1 + 1, 13, none⟩ (.int .i64 el)).setCell ⟨w.heap.size + 1 + 1, 14, none⟩ (.slice za zb zc)).setCell ⟨w.heap.size + 1 + 1, 15, none⟩ (.slice zd ze zf)).cell? ⟨w.heap.size + 1, 9, none⟩ = some (.slice none 0 0) := by rw [cell_of_row _ _ 9 _ _ (0, 0) hU3_6.res]; rfl
  have rf3_9 : ((((((Y3.setCell ⟨w.heap.size + 1 + 1, 10, none⟩ (.int .i64 ek)).setCell ⟨w.heap.size + 1 + 1, 11, none⟩ (.string et)).setCell ⟨w.heap.size + 1 + 1, 12, none⟩ (.int .i64 en)).setCell ⟨w.heap.size + 1 + 1, 13, none⟩ (.int .i64 el)).setCell ⟨w.heap.size + 1 + 1, 14, none⟩ (.slice za zb zc)).setCell ⟨w.heap.size + 1 + 1, 15, none⟩ (.slice zd ze zf)).frozen? ⟨w.heap.size + 1, 9, none⟩ = false := frozen_of_row _ _ 9 _ _ hU3_6.res
  have ld3_10 : ((((((Y3.setCell ⟨w.heap.size + 1 + 1, 10, none⟩ (.int .i64 ek)).setCell ⟨w.heap.size + 1 + 1, 11, none⟩ (.string et)).setCell ⟨w.heap.size + 1 + 1, 12, none⟩ (.int .i64 en)).setCell ⟨w.heap.size + 1 + 1, 13, none⟩ (.int .i64 el)).setCell ⟨w.heap.size + 1 + 1, 14, none⟩ (.slice za zb zc)).setCell ⟨w.heap.size + 1 + 1, 15, none⟩ (.slice zd ze zf)).cell? ⟨w.heap.size + 1 + 1, 10, none⟩ = some (.int .i64 ek) := by rw [cell_of_row _ _ 10 _ _ (0, 0) hU3_6.out]; rfl
  have rs3_10 : ((((((Y3.setCell ⟨w.heap.size + 1 + 1, 10, none⟩ (.int .i64 ek)).setCell ⟨w.heap.size + 1 + 1, 11, none⟩ (.string et)).setCell ⟨w.heap.size + 1 + 1, 12, none⟩ (.int .i64 en)).setCell ⟨w.heap.size + 1 + 1, 13, none⟩ (.int .i64 el)).setCell ⟨w.heap.size + 1 + 1, 14, none⟩ (.slice za zb zc)).setCell ⟨w.heap.size + 1 + 1, 15, none⟩ (.slice zd ze zf)).cell? ⟨w.heap.size + 1, 10, none⟩ = some (.int .i64 0) := by rw [cell_of_row _ _ 10 _ _ (0, 0) hU3_6.res]; rfl
  have rf3_10 : ((((((Y3.setCell ⟨w.heap.size + 1 + 1, 10, none⟩ (.int .i64 ek)).setCell ⟨w.heap.size + 1 + 1, 11, none⟩ (.string et)).setCell ⟨w.heap.size + 1 + 1, 12, none⟩ (.int .i64 en)).setCell ⟨w.heap.size + 1 + 1, 13, none⟩ (.int .i64 el)).setCell ⟨w.heap.size + 1 + 1, 14, none⟩ (.slice za zb zc)).setCell ⟨w.heap.size + 1 + 1, 15, none⟩ (.slice zd ze zf)).frozen? ⟨w.heap.size + 1, 10, none⟩ = false := frozen_of_row _ _ 10 _ _ hU3_6.res
  have ld3_11 : ((((((Y3.setCell ⟨w.heap.size + 1 + 1, 10, none⟩ (.int .i64 ek)).setCell ⟨w.heap.size + 1 + 1, 11, none⟩ (.string et)).setCell ⟨w.heap.size + 1 + 1, 12, none⟩ (.int .i64 en)).setCell ⟨w.heap.size + 1 + 1, 13, none⟩ (.int .i64 el)).setCell ⟨w.heap.size + 1 + 1, 14, none⟩ (.slice za zb zc)).setCell ⟨w.heap.size + 1 + 1, 15, none⟩ (.slice zd ze zf)).cell? ⟨w.heap.size + 1 + 1, 11, none⟩ = some (.string et) := by rw [cell_of_row _ _ 11 _ _ (0, 0) hU3_6.out]; rfl
  have rs3_11 : ((((((Y3.setCell ⟨w.heap.size + 1 + 1, 10, none⟩ (.int .i64 ek)).setCell ⟨w.heap.size + 1 + 1, 11, none⟩ (.string et)).setCell ⟨w.heap.size + 1 + 1, 12, none⟩ (.int .i64 en)).setCell ⟨w.heap.size + 1 + 1, 13, none⟩ (.int .i64 el)).setCell ⟨w.heap.size + 1 + 1, 14, none⟩ (.slice za zb zc)).setCell ⟨w.heap.size + 1 + 1, 15, none⟩ (.slice zd ze zf)).cell? ⟨w.heap.size + 1, 11, none⟩ = some (.string ⟨#[]⟩) := by rw [cell_of_row _ _ 11 _ _ (0, 0) hU3_6.res]; rfl
  have rf3_11 : ((((((Y3.setCell ⟨w.heap.size + 1 + 1, 10, none⟩ (.int .i64 ek)).setCell ⟨w.heap.size + 1 + 1, 11, none⟩ (.string et)).setCell ⟨w.heap.size + 1 + 1, 12, none⟩ (.int .i64 en)).setCell ⟨w.heap.size + 1 + 1, 13, none⟩ (.int .i64 el)).setCell ⟨w.heap.size + 1 + 1, 14, none⟩ (.slice za zb zc)).setCell ⟨w.heap.size + 1 + 1, 15, none⟩ (.slice zd ze zf)).frozen? ⟨w.heap.size + 1, 11, none⟩ = false := frozen_of_row _ _ 11 _ _ hU3_6.res
  have ld3_12 : ((((((Y3.setCell ⟨w.heap.size + 1 + 1, 10, none⟩ (.int .i64 ek)).setCell ⟨w.heap.size + 1 + 1, 11, none⟩ (.string et)).setCell ⟨w.heap.size + 1 + 1, 12, none⟩ (.int .i64 en)).setCell ⟨w.heap.size + 1 + 1, 13, none⟩ (.int .i64 el)).setCell ⟨w.heap.size + 1 + 1, 14, none⟩ (.slice za zb zc)).setCell ⟨w.heap.size + 1 + 1, 15, none⟩ (.slice zd ze zf)).cell? ⟨w.heap.size + 1 + 1, 12, none⟩ = some (.int .i64 en) := by rw [cell_of_row _ _ 12 _ _ (0, 0) hU3_6.out]; rfl
  have rs3_12 : ((((((Y3.setCell ⟨w.heap.size + 1 + 1, 10, none⟩ (.int .i64 ek)).setCell ⟨w.heap.size + 1 + 1, 11, none⟩ (.string et)).setCell ⟨w.heap.size + 1 + 1, 12, none⟩ (.int .i64 en)).setCell ⟨w.heap.size + 1 + 1, 13, none⟩ (.int .i64 el)).setCell ⟨w.heap.size + 1 + 1, 14, none⟩ (.slice za zb zc)).setCell ⟨w.heap.size + 1 + 1, 15, none⟩ (.slice zd ze zf)).cell? ⟨w.heap.size + 1, 12, none⟩ = some (.int .i64 0) := by rw [cell_of_row _ _ 12 _ _ (0, 0) hU3_6.res]; rfl
  have rf3_12 : ((((((Y3.setCell ⟨w.heap.size + 1 + 1, 10, none⟩ (.int .i64 ek)).setCell ⟨w.heap.size + 1 + 1, 11, none⟩ (.string et)).setCell ⟨w.heap.size + 1 + 1, 12, none⟩ (.int .i64 en)).setCell ⟨w.heap.size + 1 + 1, 13, none⟩ (.int .i64 el)).setCell ⟨w.heap.size + 1 + 1, 14, none⟩ (.slice za zb zc)).setCell ⟨w.heap.size + 1 + 1, 15, none⟩ (.slice zd ze zf)).frozen? ⟨w.heap.size + 1, 12, none⟩ = false := frozen_of_row _ _ 12 _ _ hU3_6.res
  have ld3_13 : ((((((Y3.setCell ⟨w.heap.size + 1 + 1, 10, none⟩ (.int .i64 ek)).setCell ⟨w.heap.size + 1 + 1, 11, none⟩ (.string et)).setCell ⟨w.heap.size + 1 + 1, 12, none⟩ (.int .i64 en)).setCell ⟨w.heap.size + 1 + 1, 13, none⟩ (.int .i64 el)).setCell ⟨w.heap.size + 1 + 1, 14, none⟩ (.slice za zb zc)).setCell ⟨w.heap.size + 1 + 1, 15, none⟩ (.slice zd ze zf)).cell? ⟨w.heap.size + 1 + 1, 13, none⟩ = some (.int .i64 el) := by rw [cell_of_row _ _ 13 _ _ (0, 0) hU3_6.out]; rfl
  have rs3_13 : ((((((Y3.setCell ⟨w.heap.size + 1 + 1, 10, none⟩ (.int .i64 ek)).setCell ⟨w.heap.size + 1 + 1, 11, none⟩ (.string et)).setCell ⟨w.heap.size + 1 + 1, 12, none⟩ (.int .i64 en)).setCell ⟨w.heap.size + 1 + 1, 13, none⟩ (.int .i64 el)).setCell ⟨w.heap.size + 1 + 1, 14, none⟩ (.slice za zb zc)).setCell ⟨w.heap.size + 1 + 1, 15, none⟩ (.slice zd ze zf)).cell? ⟨w.heap.size + 1, 13, none⟩ = some (.int .i64 0) := by rw [cell_of_row _ _ 13 _ _ (0, 0) hU3_6.res]; rfl
  have rf3_13 : ((((((Y3.setCell ⟨w.heap.size + 1 + 1, 10, none⟩ (.int .i64 ek)).setCell ⟨w.heap.size + 1 + 1, 11, none⟩ (.string et)).setCell ⟨w.heap.size + 1 + 1, 12, none⟩ (.int .i64 en)).setCell ⟨w.heap.size + 1 + 1, 13, none⟩ (.int .i64 el)).setCell ⟨w.heap.size + 1 + 1, 14, none⟩ (.slice za zb zc)).setCell ⟨w.heap.size + 1 + 1, 15, none⟩ (.slice zd ze zf)).frozen? ⟨w.heap.size + 1, 13, none⟩ = false := frozen_of_row _ _ 13 _ _ hU3_6.res
  have ld3_14 : ((((((Y3.setCell ⟨w.heap.size + 1 + 1, 10, none⟩ (.int .i64 ek)).setCell ⟨w.heap.size + 1 + 1, 11, none⟩ (.string et)).setCell ⟨w.heap.size + 1 + 1, 12, none⟩ (.int .i64 en)).setCell ⟨w.heap.size + 1 + 1, 13, none⟩ (.int .i64 el)).setCell ⟨w.heap.size + 1 + 1, 14, none⟩ (.slice za zb zc)).setCell ⟨w.heap.size + 1 + 1, 15, none⟩ (.slice zd ze zf)).cell? ⟨w.heap.size + 1 + 1, 14, none⟩ = some (.slice za zb zc) := by rw [cell_of_row _ _ 14 _ _ (0, 0) hU3_6.out]; rfl
  have rs3_14 : ((((((Y3.setCell ⟨w.heap.size + 1 + 1, 10, none⟩ (.int .i64 ek)).setCell ⟨w.heap.size + 1 + 1, 11, none⟩ (.string et)).setCell ⟨w.heap.size + 1 + 1, 12, none⟩ (.int .i64 en)).setCell ⟨w.heap.size + 1 + 1, 13, none⟩ (.int .i64 el)).setCell ⟨w.heap.size + 1 + 1, 14, none⟩ (.slice za zb zc)).setCell ⟨w.heap.size + 1 + 1, 15, none⟩ (.slice zd ze zf)).cell? ⟨w.heap.size + 1, 14, none⟩ = some (.slice none 0 0) := by rw [cell_of_row _ _ 14 _ _ (0, 0) hU3_6.res]; rfl
  have rf3_14 : ((((((Y3.setCell ⟨w.heap.size + 1 + 1, 10, none⟩ (.int .i64 ek)).setCell ⟨w.heap.size + 1 + 1, 11, none⟩ (.string et)).setCell ⟨w.heap.size + 1 + 1, 12, none⟩ (.int .i64 en)).setCell ⟨w.heap.size + 1 + 1, 13, none⟩ (.int .i64 el)).setCell ⟨w.heap.size + 1 + 1, 14, none⟩ (.slice za zb zc)).setCell ⟨w.heap.size + 1 + 1, 15, none⟩ (.slice zd ze zf)).frozen? ⟨w.heap.size + 1, 14, none⟩ = false := frozen_of_row _ _ 14 _ _ hU3_6.res
  have ld3_15 : ((((((Y3.setCell ⟨w.heap.size + 1 + 1, 10, none⟩ (.int .i64 ek)).setCell ⟨w.heap.size + 1 + 1, 11, none⟩ (.string et)).setCell ⟨w.heap.size + 1 + 1, 12, none⟩ (.int .i64 en)).setCell ⟨w.heap.size + 1 + 1, 13, none⟩ (.int .i64 el)).setCell ⟨w.heap.size + 1 + 1, 14, none⟩ (.slice za zb zc)).setCell ⟨w.heap.size + 1 + 1, 15, none⟩ (.slice zd ze zf)).cell? ⟨w.heap.size + 1 + 1, 15, none⟩ = some (.slice zd ze zf) := by rw [cell_of_row _ _ 15 _ _ (0, 0) hU3_6.out]; rfl
  have rs3_15 : ((((((Y3.setCell ⟨w.heap.size + 1 + 1, 10, none⟩ (.int .i64 ek)).setCell ⟨w.heap.size + 1 + 1, 11, none⟩ (.string et)).setCell ⟨w.heap.size + 1 + 1, 12, none⟩ (.int .i64 en)).setCell ⟨w.heap.size + 1 + 1, 13, none⟩ (.int .i64 el)).setCell ⟨w.heap.size + 1 + 1, 14, none⟩ (.slice za zb zc)).setCell ⟨w.heap.size + 1 + 1, 15, none⟩ (.slice zd ze zf)).cell? ⟨w.heap.size + 1, 15, none⟩ = some (.slice none 0 0) := by rw [cell_of_row _ _ 15 _ _ (0, 0) hU3_6.res]; rfl
  have rf3_15 : ((((((Y3.setCell ⟨w.heap.size + 1 + 1, 10, none⟩ (.int .i64 ek)).setCell ⟨w.heap.size + 1 + 1, 11, none⟩ (.string et)).setCell ⟨w.heap.size + 1 + 1, 12, none⟩ (.int .i64 en)).setCell ⟨w.heap.size + 1 + 1, 13, none⟩ (.int .i64 el)).setCell ⟨w.heap.size + 1 + 1, 14, none⟩ (.slice za zb zc)).setCell ⟨w.heap.size + 1 + 1, 15, none⟩ (.slice zd ze zf)).frozen? ⟨w.heap.size + 1, 15, none⟩ = false := frozen_of_row _ _ 15 _ _ hU3_6.res
  clear K3 K0 K0y K1 K1y K2 K2y ab3 hb3 hT3 D3 hU3_0 hU3_1 hU3_2 hU3_3 hU3_4 hU3_5 hU3_6
  have HEND : Hid ((putL ((((((Y3.setCell ⟨w.heap.size + 1 + 1, 10, none⟩ (.int .i64 ek)).setCell ⟨w.heap.size + 1 + 1, 11, none⟩ (.string et)).setCell ⟨w.heap.size + 1 + 1, 12, none⟩ (.int .i64 en)).setCell ⟨w.heap.size + 1 + 1, 13, none⟩ (.int .i64 el)).setCell ⟨w.heap.size + 1 + 1, 14, none⟩ (.slice za zb zc)).setCell ⟨w.heap.size + 1 + 1, 15, none⟩ (.slice zd ze zf)) (w.heap.size + 1) 0 [.int .i64 kd, .string tx, .int .i64 ln, .slice (some ⟨g0, 0, none⟩) m0 m0, .slice (some ⟨g1, 0, none⟩) m1 m1, .bool td, .int .i64 tk, .string tn, .slice ya yb yc, .slice yd ye yf, .int .i64 ek, .string et, .int .i64 en, .int .i64 el, .slice za zb zc, .slice zd ze zf]).heap[w.heap.size + 1]? = some (.cells #[.int .i64 kd, .string tx, .int .i64 ln, .slice (some ⟨g0, 0, none⟩) m0 m0, .slice (some ⟨g1, 0, none⟩) m1 m1, .bool td, .int .i64 tk, .string tn, .slice ya yb yc, .slice yd ye yf, .int .i64 ek, .string et, .int .i64 en, .int .i64 el, .slice za zb zc, .slice zd ze zf] 43 (0, 0)) ∧ (∀ F, Above w.heap.size (putL ((((((Y3.setCell ⟨w.heap.size + 1 + 1, 10, none⟩ (.int .i64 ek)).setCell ⟨w.heap.size + 1 + 1, 11, none⟩ (.string et)).setCell ⟨w.heap.size + 1 + 1, 12, none⟩ (.int .i64 en)).setCell ⟨w.heap.size + 1 + 1, 13, none⟩ (.int .i64 el)).setCell ⟨w.heap.size + 1 + 1, 14, none⟩ (.slice za zb zc)).setCell ⟨w.heap.size + 1 + 1, 15, none⟩ (.slice zd ze zf)) (w.heap.size + 1) 0 [.int .i64 kd, .string tx, .int .i64 ln, .slice (some ⟨g0, 0, none⟩) m0 m0, .slice (some ⟨g1, 0, none⟩) m1 m1, .bool td, .int .i64 tk, .string tn, .slice ya yb yc, .slice yd ye yf, .int .i64 ek, .string et, .int .i64 en, .int .i64 el, .slice za zb zc, .slice zd ze zf]) F → P0 F (.slice (some ⟨g0, 0, none⟩) m0 m0) ∧ P1 F (.slice (some ⟨g1, 0, none⟩) m1 m1) ∧ P2 F [.int .i64 tk, .string tn, .slice ya yb yc, .slice yd ye yf] ∧ P3 F [.int .i64 ek, .string et, .int .i64 en, .int .i64 el, .slice za zb zc, .slice zd ze zf]) ∧ Below w.heap.size w (putL ((((((Y3.setCell ⟨w.heap.size + 1 + 1, 10, none⟩ (.int .i64 ek)).setCell ⟨w.heap.size + 1 + 1, 11, none⟩ (.string et)).setCell ⟨w.heap.size + 1 + 1, 12, none⟩ (.int .i64 en)).setCell ⟨w.heap.size + 1 + 1, 13, none⟩ (.int .i64 el)).setCell ⟨w.heap.size + 1 + 1, 14, none⟩ (.slice za zb zc)).setCell ⟨w.heap.size + 1 + 1, 15, none⟩ (.slice zd ze zf)) (w.heap.size + 1) 0 [.int .i64 kd, .string tx, .int .i64 ln, .slice (some ⟨g0, 0, none⟩) m0 m0, .slice (some ⟨g1, 0, none⟩) m1 m1, .bool td, .int .i64 tk, .string tn, .slice ya yb yc, .slice yd ye yf, .int .i64 ek, .string et, .int .i64 en, .int .i64 el, .slice za zb zc, .slice zd ze zf])) :=
    ⟨putL_row HV.out.res rfl, fun F hF => ⟨L0.out F ((putL_above (by show w.heap.size + 1 < _; omega)).trans (hF.mono (by omega))), L1.out F ((putL_above (by show w.heap.size + 1 < _; omega)).trans (hF.mono (by omega))), L2.out F ((putL_above (by show w.heap.size + 1 < _; omega)).trans (hF.mono (by omega))), L3.out F ((putL_above (by show w.heap.size + 1 < _; omega)).trans (hF.mono (by omega)))⟩, putL_below HV.out.bel (by omega)⟩
  clear HV L0 L1 L2 L3
  go_wp2_with fail
  simp only [putL, Nat.zero_add, Nat.reduceAdd] at HEND
  exact ret_toDefC (b := w.heap.size + 1) rfl HEND.out.1 ⟨g0, g1, ya, yb, yc, yd, ye, yf, za, zb, zc, zd, ze, zf, rfl, HEND.out.2.1, HEND.out.2.2⟩

theorem lawsToDf (n : Nat) (cs : List Value) (t : Df) (w : World) (h : DfAt w n cs t) (hbk : Df.bulk n t ≤ 1048576) :
    Calls Try.prog 22 #[.agg cs.toArray] w fun e w' => ∃ (pa : Option Addr) (pl pc : Nat) (ta : Option Addr) (tl tc : Nat) (ya : Option Addr) (yb yc : Nat) (yd : Option Addr) (ye yf : Nat) (za : Option Addr) (zb zc : Nat) (zd : Option Addr) (ze zf : Nat), e = .returned (.agg #[.int .i64 t.kind, .string t.name, .int .i64 t.line, .slice pa pl pc, .slice ta tl tc, .bool t.typed, .int .i64 t.ty.kind, .string t.ty.name, .slice ya yb yc, .slice yd ye yf, .int .i64 t.exp.kind, .string t.exp.text, .int .i64 t.exp.n, .int .i64 t.exp.line, .slice za zb zc, .slice zd ze zf]) ∧ (∀ F, Above w.heap.size w' F → DfW F n [.int .i64 t.kind, .string t.name, .int .i64 t.line, .slice pa pl pc, .slice ta tl tc, .bool t.typed, .int .i64 t.ty.kind, .string t.ty.name, .slice ya yb yc, .slice yd ye yf, .int .i64 t.exp.kind, .string t.exp.text, .int .i64 t.exp.n, .int .i64 t.exp.line, .slice za zb zc, .slice zd ze zf] t) ∧ Below w.heap.size w w' := by
  obtain ⟨vp, vt, t0, t1, t2, t3, x0, x1, x2, x3, x4, x5, rfl, hnm, ⟨hT, hTl, hTs⟩, ⟨hkl, hrow⟩, hty, hex⟩ := h
  unfold Df.bulk at hbk
  refine (toDefC t.kind t.line t.name t.typed t.params.length t.types.length t.ty.kind t.exp.kind t.exp.n t.exp.line t.ty.name t.exp.text vp vt t0 t1 t2 t3 x0 x1 x2 x3 x4 x5 (fun F u => Texts F u t.params) (fun F u => RowZ 4 F (TyW F n) u t.types) (fun F cs => TyW F n cs t.ty) (fun F cs => XpW F n cs t.exp) w (toTextsK vp t.params w hT (by omega)) (fun X hX => (lawsToRow n (lawsToTy n) vt t.types X (hrow.below hX fun _ _ _ h => h.below hX) (by omega)).mono ?_) (fun X hX => (lawsToTy n _ t.ty X (hty.below hX) (by omega)).mono ?_) (fun X hX => lawsToXp n _ t.exp X (hex.below hX) (by omega))).mono ?_
  · rintro e w' ⟨rfl, h1, h2⟩
    exact ⟨rfl, fun F hF => (h1.2 F hF).z fun _ _ _ _ h => h.w, h2⟩
  · rintro e w' ⟨an, ln, cn, ak, lk, ck, rfl, h1, h2⟩
    exact ⟨an, ln, cn, ak, lk, ck, rfl, fun F hF => (h1.2 F hF).w, h2⟩
  · rintro e w' ⟨g0, g1, ya, yb, yc, yd, ye, yf, za, zb, zc, zd, ze, zf, rfl, h1, h2⟩
    exact ⟨_, _, _, _, _, _, ya, yb, yc, yd, ye, yf, za, zb, zc, zd, ze, zf, rfl, fun F hF => ⟨_, _, _, _, _, _, _, _, _, _, _, _, rfl, hnm, ⟨(h1 F hF).1, hTl, hTs⟩, ⟨hkl, (h1 F hF).2.1⟩, (h1 F hF).2.2.1, (h1 F hF).2.2.2⟩, h2⟩
theorem Try.infoDef : (Try.prog.info? 43).map (fun i => (i.zero, i.size, i.bytes)) = some (some (.agg #[.int .i64 0, .string ⟨#[]⟩, .int .i64 0, .slice none 0 0, .slice none 0 0, .bool false, .int .i64 0, .string ⟨#[]⟩, .slice none 0 0, .slice none 0 0, .int .i64 0, .string ⟨#[]⟩, .int .i64 0, .int .i64 0, .slice none 0 0, .slice none 0 0]), 16, 248) := by kernel_rfl
set_option maxHeartbeats 3200000 in
set_option maxRecDepth 100000 in
theorem lawsToDfs (n : Nat) (ih : ∀ (cs : List Value) (t : Df) (w : World), DfAt w n cs t → Df.bulk n t ≤ 1048576 →
      Calls Try.prog 22 #[.agg cs.toArray] w fun e w' => ∃ (pa : Option Addr) (pl pc : Nat) (ta : Option Addr) (tl tc : Nat) (ya : Option Addr) (yb yc : Nat) (yd : Option Addr) (ye yf : Nat) (za : Option Addr) (zb zc : Nat) (zd : Option Addr) (ze zf : Nat), e = .returned (.agg #[.int .i64 t.kind, .string t.name, .int .i64 t.line, .slice pa pl pc, .slice ta tl tc, .bool t.typed, .int .i64 t.ty.kind, .string t.ty.name, .slice ya yb yc, .slice yd ye yf, .int .i64 t.exp.kind, .string t.exp.text, .int .i64 t.exp.n, .int .i64 t.exp.line, .slice za zb zc, .slice zd ze zf]) ∧ (∀ F, Above w.heap.size w' F → DfW F n [.int .i64 t.kind, .string t.name, .int .i64 t.line, .slice pa pl pc, .slice ta tl tc, .bool t.typed, .int .i64 t.ty.kind, .string t.ty.name, .slice ya yb yc, .slice yd ye yf, .int .i64 t.exp.kind, .string t.exp.text, .int .i64 t.exp.n, .int .i64 t.exp.line, .slice za zb zc, .slice zd ze zf] t) ∧ Below w.heap.size w w')
    (v : Value) (ks : List Df) (w : World) (hrow : RowG 16 w (DfAt w n) v ks) (hkl : bulkA (Df.bulk n) ks ≤ 1048576) :
    Calls Try.prog 15 #[v] w fun e w' => e = .returned (.slice (some ⟨w.heap.size, 0, none⟩) ks.length ks.length) ∧ (∀ F, Above w.heap.size w' F → RowZ 16 F (DfW F n) (.slice (some ⟨w.heap.size, 0, none⟩) ks.length ks.length) ks) ∧ Below w.heap.size w w' := by
  obtain ⟨i0, hi, hz0, hz1, hz2⟩ := info_parts Try.infoDef
  obtain ⟨a, capa, rfl, ha⟩ := hrow.open fun cs t h => by rw [h.len]; decide
  have HEA : Hid (type_of% ha) := ha
  have IH : Hid (type_of% ih) := ih
  have hlen : ks.length ≤ 1048576 := by unfold bulkA at hkl; omega
  clear hrow ha ih
  go_enter Try.func15, Try.ntmps15
  go_wp2_with (at_make; refine wpList_make_full _ rfl _ _ 28 rfl w.heap.size 43 i0 (.agg #[.int .i64 0, .string ⟨#[]⟩, .int .i64 0, .slice none 0 0, .slice none 0 0, .bool false, .int .i64 0, .string ⟨#[]⟩, .slice none 0 0, .slice none 0 0, .int .i64 0, .string ⟨#[]⟩, .int .i64 0, .int .i64 0, .slice none 0 0, .slice none 0 0]) 16 Try.underlying28 hi hz0 hz1 .i64 .i64 _ _ ks.length rfl rfl rfl rfl (by rw [hz2]; omega) (by unfold maxLen; omega) (Nat.le_refl _) ?_)
  intro w1 hown hgrow
  have hB : Below w.heap.size w w1 := (Below.refl _ _).grown hgrow (Nat.le_refl _) (fun k hk => by cases hk)
  obtain ⟨X, hX⟩ : ∃ X, w1.ownsRow w.heap.size 43 16 (.slice (some ⟨w.heap.size, 0, none⟩) ks.length ks.length) ks.length X := ⟨_, hown⟩
  have hw1 : w.heap.size + 1 ≤ w1.heap.size := by have := (hX.lt w.heap.size rfl).2; omega
  have HX : Hid (type_of% hX) := hX
  clear hown hgrow hX
  go_wp2_with fail
  go_loopw [4] (fun i wr => ∃ (k : Nat) (X : List Value), k ≤ ks.length ∧ i = .int .i64 k ∧ wr.ownsRow w.heap.size 43 16 (.slice (some ⟨w.heap.size, 0, none⟩) ks.length ks.length) ks.length X ∧ FilG 16 (w.heap.size + 1) (fun F cs t => DfW F n cs t) wr X ks k ∧ Below w.heap.size w wr ∧ w.heap.size + 1 ≤ wr.heap.size) (fun i _ => ks.length - (intOf i).toNat)
  case atStart => exact ⟨0, X, Nat.zero_le _, rfl, HX.out, fun j _ h => absurd h (by omega), hB, hw1⟩
  case round =>
    obtain ⟨k, Y, hk, rfl, ho, hfil, hbe, hsz⟩ := hrel
    clear HX hB hw1
    have HF : Hid (type_of% hfil) := hfil
    clear hfil
    have hYl : Y.length = ks.length * 16 := ho.1
    by_cases hlt : k < ks.length
    · obtain ⟨ba, oa, ca, rfl, hba, hta, pa⟩ := HEA.out k hlt
      have hbk := bulkA_one (Df.bulk n) ks k hlt
      have HC0 := IH.out ca ks[k] wr (hta.below hbe) (by omega)
      obtain ⟨x0, x1, x2, x3, x4, x5, x6, x7, x8, x9, x10, x11, x12, x13, x14, x15, rfl⟩ := cells16 hta.len
      have A0 : wr.cell? ⟨ba, oa + k * 16, none⟩ = some x0 := (hbe.cell (p := ⟨ba, oa + k * 16 + 0, none⟩) hba).trans (pa 0 x0 rfl)
      have A1 : wr.cell? ⟨ba, oa + k * 16 + 1, none⟩ = some x1 := (hbe.cell (p := ⟨ba, oa + k * 16 + 1, none⟩) hba).trans (pa 1 x1 rfl)
      have A2 : wr.cell? ⟨ba, oa + k * 16 + 2, none⟩ = some x2 := (hbe.cell (p := ⟨ba, oa + k * 16 + 2, none⟩) hba).trans (pa 2 x2 rfl)
      have A3 : wr.cell? ⟨ba, oa + k * 16 + 3, none⟩ = some x3 := (hbe.cell (p := ⟨ba, oa + k * 16 + 3, none⟩) hba).trans (pa 3 x3 rfl)
      have A4 : wr.cell? ⟨ba, oa + k * 16 + 4, none⟩ = some x4 := (hbe.cell (p := ⟨ba, oa + k * 16 + 4, none⟩) hba).trans (pa 4 x4 rfl)
      have A5 : wr.cell? ⟨ba, oa + k * 16 + 5, none⟩ = some x5 := (hbe.cell (p := ⟨ba, oa + k * 16 + 5, none⟩) hba).trans (pa 5 x5 rfl)
      have A6 : wr.cell? ⟨ba, oa + k * 16 + 6, none⟩ = some x6 := (hbe.cell (p := ⟨ba, oa + k * 16 + 6, none⟩) hba).trans (pa 6 x6 rfl)
      have A7 : wr.cell? ⟨ba, oa + k * 16 + 7, none⟩ = some x7 := (hbe.cell (p := ⟨ba, oa + k * 16 + 7, none⟩) hba).trans (pa 7 x7 rfl)
      have A8 : wr.cell? ⟨ba, oa + k * 16 + 8, none⟩ = some x8 := (hbe.cell (p := ⟨ba, oa + k * 16 + 8, none⟩) hba).trans (pa 8 x8 rfl)
      have A9 : wr.cell? ⟨ba, oa + k * 16 + 9, none⟩ = some x9 := (hbe.cell (p := ⟨ba, oa + k * 16 + 9, none⟩) hba).trans (pa 9 x9 rfl)
      have A10 : wr.cell? ⟨ba, oa + k * 16 + 10, none⟩ = some x10 := (hbe.cell (p := ⟨ba, oa + k * 16 + 10, none⟩) hba).trans (pa 10 x10 rfl)
      have A11 : wr.cell? ⟨ba, oa + k * 16 + 11, none⟩ = some x11 := (hbe.cell (p := ⟨ba, oa + k * 16 + 11, none⟩) hba).trans (pa 11 x11 rfl)
      have A12 : wr.cell? ⟨ba, oa + k * 16 + 12, none⟩ = some x12 := (hbe.cell (p := ⟨ba, oa + k * 16 + 12, none⟩) hba).trans (pa 12 x12 rfl)
      have A13 : wr.cell? ⟨ba, oa + k * 16 + 13, none⟩ = some x13 := (hbe.cell (p := ⟨ba, oa + k * 16 + 13, none⟩) hba).trans (pa 13 x13 rfl)
      have A14 : wr.cell? ⟨ba, oa + k * 16 + 14, none⟩ = some x14 := (hbe.cell (p := ⟨ba, oa + k * 16 + 14, none⟩) hba).trans (pa 14 x14 rfl)
      have A15 : wr.cell? ⟨ba, oa + k * 16 + 15, none⟩ = some x15 := (hbe.cell (p := ⟨ba, oa + k * 16 + 15, none⟩) hba).trans (pa 15 x15 rfl)
      have HC : Hid (type_of% HC0) := HC0
      clear HEA IH hta hbk HC0 pa
      go_wp2_with fail
      refine HC.out.mono ?_
      rintro e w2 ⟨pa, pl, pc, ta, tl, tc, ya, yb, yc, yd, ye, yf, za, zb, zc, zd, ze, zf, rfl, hnew, hb2⟩
      have o0 := kept_belowT ho hb2
      have hbe2 : Below w.heap.size w w2 := hbe.trans (hb2.mono (by omega))
      have hsz2 : w.heap.size + 1 ≤ w2.heap.size := Nat.le_trans hsz hb2.size
      have ab2 : Above (w.heap.size + 1) wr w2 := Above.of_below hb2
      have HNW : Hid (type_of% hnew) := hnew
      clear hnew ho hbe hb2 HC A0 A1 A2 A3 A4 A5 A6 A7 A8 A9 A10 A11 A12 A13 A14 A15
      generalize hv0 : Value.int .i64 ks[k].kind = y0 at *
      generalize hv1 : Value.string ks[k].name = y1 at *
      generalize hv2 : Value.int .i64 ks[k].line = y2 at *
      generalize hv3 : Value.slice pa pl pc = y3 at *
      generalize hv4 : Value.slice ta tl tc = y4 at *
      generalize hv5 : Value.bool ks[k].typed = y5 at *
      generalize hv6 : Value.int .i64 ks[k].ty.kind = y6 at *
      generalize hv7 : Value.string ks[k].ty.name = y7 at *
      generalize hv8 : Value.slice ya yb yc = y8 at *
      generalize hv9 : Value.slice yd ye yf = y9 at *
      generalize hv10 : Value.int .i64 ks[k].exp.kind = y10 at *
      generalize hv11 : Value.string ks[k].exp.text = y11 at *
      generalize hv12 : Value.int .i64 ks[k].exp.n = y12 at *
      generalize hv13 : Value.int .i64 ks[k].exp.line = y13 at *
      generalize hv14 : Value.slice za zb zc = y14 at *
      generalize hv15 : Value.slice zd ze zf = y15 at *
      have f0 := o0.frozenAt (k * 16)
      have q0 : ∃ u, w2.cell? ⟨w.heap.size, k * 16, none⟩ = some u := by rw [o0.cellAt (k * 16) (by omega)]; exact ⟨_, List.getElem?_eq_getElem (by first | omega | (simp only [List.length_set]; omega))⟩
      obtain ⟨u0', q0⟩ := q0
      obtain ⟨o1, _⟩ := o0.stored (k * 16) y0
      have f1 := o1.frozenAt (k * 16 + 1)
      have q1 : ∃ u, (w2.setCell ⟨w.heap.size, k * 16, none⟩ y0).cell? ⟨w.heap.size, k * 16 + 1, none⟩ = some u := by rw [o1.cellAt (k * 16 + 1) (by omega)]; exact ⟨_, List.getElem?_eq_getElem (by first | omega | (simp only [List.length_set]; omega))⟩
      obtain ⟨u1', q1⟩ := q1
      obtain ⟨o2, _⟩ := o1.stored (k * 16 + 1) y1
      have f2 := o2.frozenAt (k * 16 + 2)
      have q2 : ∃ u, ((w2.setCell ⟨w.heap.size, k * 16, none⟩ y0).setCell ⟨w.heap.size, k * 16 + 1, none⟩ y1).cell? ⟨w.heap.size, k * 16 + 2, none⟩ = some u := by rw [o2.cellAt (k * 16 + 2) (by omega)]; exact ⟨_, List.getElem?_eq_getElem (by first | omega | (simp only [List.length_set]; omega))⟩
      obtain ⟨u2', q2⟩ := q2
      obtain ⟨o3, _⟩ := o2.stored (k * 16 + 2) y2
      have f3 := o3.frozenAt (k * 16 + 3)
      have q3 : ∃ u, (((w2.setCell ⟨w.heap.size, k * 16, none⟩ y0).setCell ⟨w.heap.size, k * 16 + 1, none⟩ y1).setCell ⟨w.heap.size, k * 16 + 2, none⟩ y2).cell? ⟨w.heap.size, k * 16 + 3, none⟩ = some u := by rw [o3.cellAt (k * 16 + 3) (by omega)]; exact ⟨_, List.getElem?_eq_getElem (by first | omega | (simp only [List.length_set]; omega))⟩
      obtain ⟨u3', q3⟩ := q3
      obtain ⟨o4, _⟩ := o3.stored (k * 16 + 3) y3
      have f4 := o4.frozenAt (k * 16 + 4)
      have q4 : ∃ u, ((((w2.setCell ⟨w.heap.size, k * 16, none⟩ y0).setCell ⟨w.heap.size, k * 16 + 1, none⟩ y1).setCell ⟨w.heap.size, k * 16 + 2, none⟩ y2).setCell ⟨w.heap.size, k * 16 + 3, none⟩ y3).cell? ⟨w.heap.size, k * 16 + 4, none⟩ = some u := by rw [o4.cellAt (k * 16 + 4) (by omega)]; exact ⟨_, List.getElem?_eq_getElem (by first | omega | (simp only [List.length_set]; omega))⟩
      obtain ⟨u4', q4⟩ := q4
      obtain ⟨o5, _⟩ := o4.stored (k * 16 + 4) y4
      have f5 := o5.frozenAt (k * 16 + 5)
      have q5 : ∃ u, (((((w2.setCell ⟨w.heap.size, k * 16, none⟩ y0).setCell ⟨w.heap.size, k * 16 + 1, none⟩ y1).setCell ⟨w.heap.size, k * 16 + 2, none⟩ y2).setCell ⟨w.heap.size, k * 16 + 3, none⟩ y3).setCell ⟨w.heap.size, k * 16 + 4, none⟩ y4).cell? ⟨w.heap.size, k * 16 + 5, none⟩ = some u := by rw [o5.cellAt (k * 16 + 5) (by omega)]; exact ⟨_, List.getElem?_eq_getElem (by first | omega | (simp only [List.length_set]; omega))⟩
      obtain ⟨u5', q5⟩ := q5
      obtain ⟨o6, _⟩ := o5.stored (k * 16 + 5) y5
      have f6 := o6.frozenAt (k * 16 + 6)
      have q6 : ∃ u, ((((((w2.setCell ⟨w.heap.size, k * 16, none⟩ y0).setCell ⟨w.heap.size, k * 16 + 1, none⟩ y1).setCell ⟨w.heap.size, k * 16 + 2, none⟩ y2).setCell ⟨w.heap.size, k * 16 + 3, none⟩ y3).setCell ⟨w.heap.size, k * 16 + 4, none⟩ y4).setCell ⟨w.heap.size, k * 16 + 5, none⟩ y5).cell? ⟨w.heap.size, k * 16 + 6, none⟩ = some u := by rw [o6.cellAt (k * 16 + 6) (by omega)]; exact ⟨_, List.getElem?_eq_getElem (by first | omega | (simp only [List.length_set]; omega))⟩
      obtain ⟨u6', q6⟩ := q6
      obtain ⟨o7, _⟩ := o6.stored (k * 16 + 6) y6
      have f7 := o7.frozenAt (k * 16 + 7)
      have q7 : ∃ u, (((((((w2.setCell ⟨w.heap.size, k * 16, none⟩ y0).setCell ⟨w.heap.size, k * 16 + 1, none⟩ y1).setCell ⟨w.heap.size, k * 16 + 2, none⟩ y2).setCell ⟨w.heap.size, k * 16 + 3, none⟩ y3).setCell ⟨w.heap.size, k * 16 + 4, none⟩ y4).setCell ⟨w.heap.size, k * 16 + 5, none⟩ y5).setCell ⟨w.heap.size, k * 16 + 6, none⟩ y6).cell? ⟨w.heap.size, k * 16 + 7, none⟩ = some u := by rw [o7.cellAt (k * 16 + 7) (by omega)]; exact ⟨_, List.getElem?_eq_getElem (by first | omega | (simp only [List.length_set]; omega))⟩
      obtain ⟨u7', q7⟩ := q7
      obtain ⟨o8, _⟩ := o7.stored (k * 16 + 7) y7
      have f8 := o8.frozenAt (k * 16 + 8)
      have q8 : ∃ u, ((((((((w2.setCell ⟨w.heap.size, k * 16, none⟩ y0).setCell ⟨w.heap.size, k * 16 + 1, none⟩ y1).setCell ⟨w.heap.size, k * 16 + 2, none⟩ y2).setCell ⟨w.heap.size, k * 16 + 3, none⟩ y3).setCell ⟨w.heap.size, k * 16 + 4, none⟩ y4).setCell ⟨w.heap.size, k * 16 + 5, none⟩ y5).setCell ⟨w.heap.size, k * 16 + 6, none⟩ y6).setCell ⟨w.heap.size, k * 16 + 7, none⟩ y7).cell? ⟨w.heap.size, k * 16 + 8, none⟩ = some u := by rw [o8.cellAt (k * 16 + 8) (by omega)]; exact ⟨_, List.getElem?_eq_getElem (by first | omega | (simp only [List.length_set]; omega))⟩
      obtain ⟨u8', q8⟩ := q8
      obtain ⟨o9, _⟩ := o8.stored (k * 16 + 8) y8
      have f9 := o9.frozenAt (k * 16 + 9)
      have q9 : ∃ u, (((((((((w2.setCell ⟨w.heap.size, k * 16, none⟩ y0).setCell ⟨w.heap.size, k * 16 + 1, none⟩ y1).setCell ⟨w.heap.size, k * 16 + 2, none⟩ y2).setCell ⟨w.heap.size, k * 16 + 3, none⟩ y3).setCell ⟨w.heap.size, k * 16 + 4, none⟩ y4).setCell ⟨w.heap.size, k * 16 + 5, none⟩ y5).setCell ⟨w.heap.size, k * 16 + 6, none⟩ y6).setCell ⟨w.heap.size, k * 16 + 7, none⟩ y7).setCell ⟨w.heap.size, k * 16 + 8, none⟩ y8).cell? ⟨w.heap.size, k * 16 + 9, none⟩ = some u := by rw [o9.cellAt (k * 16 + 9) (by omega)]; exact ⟨_, List.getElem?_eq_getElem (by first | omega | (simp only [List.length_set]; omega))⟩
      obtain ⟨u9', q9⟩ := q9
      obtain ⟨o10, _⟩ := o9.stored (k * 16 + 9) y9
      have f10 := o10.frozenAt (k * 16 + 10)
      have q10 : ∃ u, ((((((((((w2.setCell ⟨w.heap.size, k * 16, none⟩ y0).setCell ⟨w.heap.size, k * 16 + 1, none⟩ y1).setCell ⟨w.heap.size, k * 16 + 2, none⟩ y2).setCell ⟨w.heap.size, k * 16 + 3, none⟩ y3).setCell ⟨w.heap.size, k * 16 + 4, none⟩ y4).setCell ⟨w.heap.size, k * 16 + 5, none⟩ y5).setCell ⟨w.heap.size, k * 16 + 6, none⟩ y6).setCell ⟨w.heap.size, k * 16 + 7, none⟩ y7).setCell ⟨w.heap.size, k * 16 + 8, none⟩ y8).setCell ⟨w.heap.size, k * 16 + 9, none⟩ y9).cell? ⟨w.heap.size, k * 16 + 10, none⟩ = some u := by rw [o10.cellAt (k * 16 + 10) (by omega)]; exact ⟨_, List.getElem?_eq_getElem (by first | omega | (simp only [List.length_set]; omega))⟩
      obtain ⟨u10', q10⟩ := q10
      obtain ⟨o11, _⟩ := o10.stored (k * 16 + 10) y10
      have f11 := o11.frozenAt (k * 16 + 11)
      have q11 : ∃ u, (((((((((((w2.setCell ⟨w.heap.size, k * 16, none⟩ y0).setCell ⟨w.heap.size, k * 16 + 1, none⟩ y1).setCell ⟨w.heap.size, k * 16 + 2, none⟩ y2).setCell ⟨w.heap.size, k * 16 + 3, none⟩ y3).setCell ⟨w.heap.size, k * 16 + 4, none⟩ y4).setCell ⟨w.heap.size, k * 16 + 5, none⟩ y5).setCell ⟨w.heap.size, k * 16 + 6, none⟩ y6).setCell ⟨w.heap.size, k * 16 + 7, none⟩ y7).setCell ⟨w.heap.size, k * 16 + 8, none⟩ y8).setCell ⟨w.heap.size, k * 16 + 9, none⟩ y9).setCell ⟨w.heap.size, k * 16 + 10, none⟩ y10).cell? ⟨w.heap.size, k * 16 + 11, none⟩ = some u := by rw [o11.cellAt (k * 16 + 11) (by omega)]; exact ⟨_, List.getElem?_eq_getElem (by first | omega | (simp only [List.length_set]; omega))⟩
      obtain ⟨u11', q11⟩ := q11
      obtain ⟨o12, _⟩ := o11.stored (k * 16 + 11) y11
      have f12 := o12.frozenAt (k * 16 + 12)
      have q12 : ∃ u, ((((((((((((w2.setCell ⟨w.heap.size, k * 16, none⟩ y0).setCell ⟨w.heap.size, k * 16 + 1, none⟩ y1).setCell ⟨w.heap.size, k * 16 + 2, none⟩ y2).setCell ⟨w.heap.size, k * 16 + 3, none⟩ y3).setCell ⟨w.heap.size, k * 16 + 4, none⟩ y4).setCell ⟨w.heap.size, k * 16 + 5, none⟩ y5).setCell ⟨w.heap.size, k * 16 + 6, none⟩ y6).setCell ⟨w.heap.size, k * 16 + 7, none⟩ y7).setCell ⟨w.heap.size, k * 16 + 8, none⟩ y8).setCell ⟨w.heap.size, k * 16 + 9, none⟩ y9).setCell ⟨w.heap.size, k * 16 + 10, none⟩ y10).setCell ⟨w.heap.size, k * 16 + 11, none⟩ y11).cell? ⟨w.heap.size, k * 16 + 12, none⟩ = some u := by rw [o12.cellAt (k * 16 + 12) (by omega)]; exact ⟨_, List.getElem?_eq_getElem (by first | omega | (simp only [List.length_set]; omega))⟩
      obtain ⟨u12', q12⟩ := q12
      obtain ⟨o13, _⟩ := o12.stored (k * 16 + 12) y12
      have f13 := o13.frozenAt (k * 16 + 13)
      have q13 : ∃ u, (((((((((((((w2.setCell ⟨w.heap.size, k * 16, none⟩ y0).setCell ⟨w.heap.size, k * 16 + 1, none⟩ y1).setCell ⟨w.heap.size, k * 16 + 2, none⟩ y2).setCell ⟨w.heap.size, k * 16 + 3, none⟩ y3).setCell ⟨w.heap.size, k * 16 + 4, none⟩ y4).setCell ⟨w.heap.size, k * 16 + 5, none⟩ y5).setCell ⟨w.heap.size, k * 16 + 6, none⟩ y6).setCell ⟨w.heap.size, k * 16 + 7, none⟩ y7).setCell ⟨w.heap.size, k * 16 + 8, none⟩ y8).setCell ⟨w.heap.size, k * 16 + 9, none⟩ y9).setCell ⟨w.heap.size, k * 16 + 10, none⟩ y10).setCell ⟨w.heap.size, k * 16 + 11, none⟩ y11).setCell ⟨w.heap.size, k * 16 + 12, none⟩ y12).cell? ⟨w.heap.size, k * 16 + 13, none⟩ = some u := by rw [o13.cellAt (k * 16 + 13) (by omega)]; exact ⟨_, List.getElem?_eq_getElem (by first | omega | (simp only [List.length_set]; omega))⟩
      obtain ⟨u13', q13⟩ := q13
      obtain ⟨o14, _⟩ := o13.stored (k * 16 + 13) y13
      have f14 := o14.frozenAt (k * 16 + 14)
      have q14 : ∃ u, ((((((((((((((w2.setCell ⟨w.heap.size, k * 16, none⟩ y0).setCell ⟨w.heap.size, k * 16 + 1, none⟩ y1).setCell ⟨w.heap.size, k * 16 + 2, none⟩ y2).setCell ⟨w.heap.size, k * 16 + 3, none⟩ y3).setCell ⟨w.heap.size, k * 16 + 4, none⟩ y4).setCell ⟨w.heap.size, k * 16 + 5, none⟩ y5).setCell ⟨w.heap.size, k * 16 + 6, none⟩ y6).setCell ⟨w.heap.size, k * 16 + 7, none⟩ y7).setCell ⟨w.heap.size, k * 16 + 8, none⟩ y8).setCell ⟨w.heap.size, k * 16 + 9, none⟩ y9).setCell ⟨w.heap.size, k * 16 + 10, none⟩ y10).setCell ⟨w.heap.size, k * 16 + 11, none⟩ y11).setCell ⟨w.heap.size, k * 16 + 12, none⟩ y12).setCell ⟨w.heap.size, k * 16 + 13, none⟩ y13).cell? ⟨w.heap.size, k * 16 + 14, none⟩ = some u := by rw [o14.cellAt (k * 16 + 14) (by omega)]; exact ⟨_, List.getElem?_eq_getElem (by first | omega | (simp only [List.length_set]; omega))⟩
      obtain ⟨u14', q14⟩ := q14
      obtain ⟨o15, _⟩ := o14.stored (k * 16 + 14) y14
      have f15 := o15.frozenAt (k * 16 + 15)
      have q15 : ∃ u, (((((((((((((((w2.setCell ⟨w.heap.size, k * 16, none⟩ y0).setCell ⟨w.heap.size, k * 16 + 1, none⟩ y1).setCell ⟨w.heap.size, k * 16 + 2, none⟩ y2).setCell ⟨w.heap.size, k * 16 + 3, none⟩ y3).setCell ⟨w.heap.size, k * 16 + 4, none⟩ y4).setCell ⟨w.heap.size, k * 16 + 5, none⟩ y5).setCell ⟨w.heap.size, k * 16 + 6, none⟩ y6).setCell ⟨w.heap.size, k * 16 + 7, none⟩ y7).setCell ⟨w.heap.size, k * 16 + 8, none⟩ y8).setCell ⟨w.heap.size, k * 16 + 9, none⟩ y9).setCell ⟨w.heap.size, k * 16 + 10, none⟩ y10).setCell ⟨w.heap.size, k * 16 + 11, none⟩ y11).setCell ⟨w.heap.size, k * 16 + 12, none⟩ y12).setCell ⟨w.heap.size, k * 16 + 13, none⟩ y13).setCell ⟨w.heap.size, k * 16 + 14, none⟩ y14).cell? ⟨w.heap.size, k * 16 + 15, none⟩ = some u := by rw [o15.cellAt (k * 16 + 15) (by omega)]; exact ⟨_, List.getElem?_eq_getElem (by first | omega | (simp only [List.length_set]; omega))⟩
      obtain ⟨u15', q15⟩ := q15
      obtain ⟨o16, _⟩ := o15.stored (k * 16 + 15) y15
      have ab3 : Above (w.heap.size + 1) w2 ((((((((((((((((w2.setCell ⟨w.heap.size, k * 16, none⟩ y0).setCell ⟨w.heap.size, k * 16 + 1, none⟩ y1).setCell ⟨w.heap.size, k * 16 + 2, none⟩ y2).setCell ⟨w.heap.size, k * 16 + 3, none⟩ y3).setCell ⟨w.heap.size, k * 16 + 4, none⟩ y4).setCell ⟨w.heap.size, k * 16 + 5, none⟩ y5).setCell ⟨w.heap.size, k * 16 + 6, none⟩ y6).setCell ⟨w.heap.size, k * 16 + 7, none⟩ y7).setCell ⟨w.heap.size, k * 16 + 8, none⟩ y8).setCell ⟨w.heap.size, k * 16 + 9, none⟩ y9).setCell ⟨w.heap.size, k * 16 + 10, none⟩ y10).setCell ⟨w.heap.size, k * 16 + 11, none⟩ y11).setCell ⟨w.heap.size, k * 16 + 12, none⟩ y12).setCell ⟨w.heap.size, k * 16 + 13, none⟩ y13).setCell ⟨w.heap.size, k * 16 + 14, none⟩ y14).setCell ⟨w.heap.size, k * 16 + 15, none⟩ y15) := (Above.trans (Above.trans (Above.trans (Above.trans (Above.trans (Above.trans (Above.trans (Above.trans (Above.trans (Above.trans (Above.trans (Above.trans (Above.trans (Above.trans (Above.trans (Above.trans (Above.refl _ _) (Above.set _ _ _ (by show w.heap.size < _; omega))) (Above.set _ _ _ (by show w.heap.size < _; omega))) (Above.set _ _ _ (by show w.heap.size < _; omega))) (Above.set _ _ _ (by show w.heap.size < _; omega))) (Above.set _ _ _ (by show w.heap.size < _; omega))) (Above.set _ _ _ (by show w.heap.size < _; omega))) (Above.set _ _ _ (by show w.heap.size < _; omega))) (Above.set _ _ _ (by show w.heap.size < _; omega))) (Above.set _ _ _ (by show w.heap.size < _; omega))) (Above.set _ _ _ (by show w.heap.size < _; omega))) (Above.set _ _ _ (by show w.heap.size < _; omega))) (Above.set _ _ _ (by show w.heap.size < _; omega))) (Above.set _ _ _ (by show w.heap.size < _; omega))) (Above.set _ _ _ (by show w.heap.size < _; omega))) (Above.set _ _ _ (by show w.heap.size < _; omega))) (Above.set _ _ _ (by show w.heap.size < _; omega)))
      have HR1 : Hid (type_of% o16) := o16
      have HR2 : Hid (FilG 16 (w.heap.size + 1) (fun F cs t => DfW F n cs t) ((((((((((((((((w2.setCell ⟨w.heap.size, k * 16, none⟩ y0).setCell ⟨w.heap.size, k * 16 + 1, none⟩ y1).setCell ⟨w.heap.size, k * 16 + 2, none⟩ y2).setCell ⟨w.heap.size, k * 16 + 3, none⟩ y3).setCell ⟨w.heap.size, k * 16 + 4, none⟩ y4).setCell ⟨w.heap.size, k * 16 + 5, none⟩ y5).setCell ⟨w.heap.size, k * 16 + 6, none⟩ y6).setCell ⟨w.heap.size, k * 16 + 7, none⟩ y7).setCell ⟨w.heap.size, k * 16 + 8, none⟩ y8).setCell ⟨w.heap.size, k * 16 + 9, none⟩ y9).setCell ⟨w.heap.size, k * 16 + 10, none⟩ y10).setCell ⟨w.heap.size, k * 16 + 11, none⟩ y11).setCell ⟨w.heap.size, k * 16 + 12, none⟩ y12).setCell ⟨w.heap.size, k * 16 + 13, none⟩ y13).setCell ⟨w.heap.size, k * 16 + 14, none⟩ y14).setCell ⟨w.heap.size, k * 16 + 15, none⟩ y15) _ ks (k + 1)) := HF.out.more (cs := [y0, y1, y2, y3, y4, y5, y6, y7, y8, y9, y10, y11, y12, y13, y14, y15]) (ab2.trans ab3) hlt hYl rfl (fun F hF => HNW.out F ((ab3.trans hF).mono hsz)) rfl
      have HR3 : Hid (Below w.heap.size w ((((((((((((((((w2.setCell ⟨w.heap.size, k * 16, none⟩ y0).setCell ⟨w.heap.size, k * 16 + 1, none⟩ y1).setCell ⟨w.heap.size, k * 16 + 2, none⟩ y2).setCell ⟨w.heap.size, k * 16 + 3, none⟩ y3).setCell ⟨w.heap.size, k * 16 + 4, none⟩ y4).setCell ⟨w.heap.size, k * 16 + 5, none⟩ y5).setCell ⟨w.heap.size, k * 16 + 6, none⟩ y6).setCell ⟨w.heap.size, k * 16 + 7, none⟩ y7).setCell ⟨w.heap.size, k * 16 + 8, none⟩ y8).setCell ⟨w.heap.size, k * 16 + 9, none⟩ y9).setCell ⟨w.heap.size, k * 16 + 10, none⟩ y10).setCell ⟨w.heap.size, k * 16 + 11, none⟩ y11).setCell ⟨w.heap.size, k * 16 + 12, none⟩ y12).setCell ⟨w.heap.size, k * 16 + 13, none⟩ y13).setCell ⟨w.heap.size, k * 16 + 14, none⟩ y14).setCell ⟨w.heap.size, k * 16 + 15, none⟩ y15)) := ((((((((((((((((hbe2.setCell (Nat.le_refl _) _).setCell (Nat.le_refl _) _).setCell (Nat.le_refl _) _).setCell (Nat.le_refl _) _).setCell (Nat.le_refl _) _).setCell (Nat.le_refl _) _).setCell (Nat.le_refl _) _).setCell (Nat.le_refl _) _).setCell (Nat.le_refl _) _).setCell (Nat.le_refl _) _).setCell (Nat.le_refl _) _).setCell (Nat.le_refl _) _).setCell (Nat.le_refl _) _).setCell (Nat.le_refl _) _).setCell (Nat.le_refl _) _).setCell (Nat.le_refl _) _)
      have HR4 : w.heap.size + 1 ≤ ((((((((((((((((w2.setCell ⟨w.heap.size, k * 16, none⟩ y0).setCell ⟨w.heap.size, k * 16 + 1, none⟩ y1).setCell ⟨w.heap.size, k * 16 + 2, none⟩ y2).setCell ⟨w.heap.size, k * 16 + 3, none⟩ y3).setCell ⟨w.heap.size, k * 16 + 4, none⟩ y4).setCell ⟨w.heap.size, k * 16 + 5, none⟩ y5).setCell ⟨w.heap.size, k * 16 + 6, none⟩ y6).setCell ⟨w.heap.size, k * 16 + 7, none⟩ y7).setCell ⟨w.heap.size, k * 16 + 8, none⟩ y8).setCell ⟨w.heap.size, k * 16 + 9, none⟩ y9).setCell ⟨w.heap.size, k * 16 + 10, none⟩ y10).setCell ⟨w.heap.size, k * 16 + 11, none⟩ y11).setCell ⟨w.heap.size, k * 16 + 12, none⟩ y12).setCell ⟨w.heap.size, k * 16 + 13, none⟩ y13).setCell ⟨w.heap.size, k * 16 + 14, none⟩ y14).setCell ⟨w.heap.size, k * 16 + 15, none⟩ y15).heap.size := by simpa using hsz2
      clear o0 o1 o2 o3 o4 o5 o6 o7 o8 o9 o10 o11 o12 o13 o14 o15 o16 ab2 ab3 HNW HF hbe2 hsz2 hsz
      subst hv0 hv1 hv2 hv3 hv4 hv5 hv6 hv7 hv8 hv9 hv10 hv11 hv12 hv13 hv14 hv15
      go_wp2_with fail
      go_roundw
      case rel => exact ⟨k + 1, _, by omega, by go_num, HR1.out, HR2.out, HR3.out, HR4⟩
      case measure => simp [intOf]; omega
    · have hke : k = ks.length := by omega
      subst hke
      have HR : Hid (type_of% (HF.out.row ho)) := HF.out.row ho
      clear HF HEA IH ho
      go_wp2_with fail
      go_ret
      exact ⟨rfl, HR.out, hbe⟩
theorem ret_toModC {R : Ending → World → Prop} {W : World} {tmps : Array Value} {b : Nat} {t : TypeId} {x0 x1 : Value} (hp : tmps[2]?.getD undef = .pointer (some ⟨b, 0, none⟩)) (h : W.heap[b]? = some (.cells #[x0, x1] t (0, 0))) (hR : R (.returned (.agg #[x0, x1])) W) :
    bodyPost Try.prog Try.f6 R .ret { tmps := tmps, defers := [] } W := by
  have h0 : W.cell? ⟨b, 0, none⟩ = some x0 := by rw [cell_of_row _ _ 0 _ _ (0, 0) h]; rfl
  have h1 : W.cell? ⟨b, 1, none⟩ = some x1 := by rw [cell_of_row _ _ 1 _ _ (0, 0) h]; rfl
  refine bodyPost_ret (v := .agg #[x0, x1]) ?_ rfl hR
  simp [results, Try.results6, go_sem, hp, h0, h1]
set_option maxHeartbeats 3200000 in
set_option maxRecDepth 100000 in
theorem toModC (m0 m1 : Nat) (vi vd : Value) (P0 P1 : World → Value → Prop) (w : World)
    (C0 : ∀ X : World, Below w.heap.size w X → Calls Try.prog 14 #[vi] X fun e w' => e = .returned (.slice (some ⟨X.heap.size, 0, none⟩) m0 m0) ∧ (∀ F, Above X.heap.size w' F → P0 F (.slice (some ⟨X.heap.size, 0, none⟩) m0 m0)) ∧ Below X.heap.size X w')
    (C1 : ∀ X : World, Below w.heap.size w X → Calls Try.prog 15 #[vd] X fun e w' => e = .returned (.slice (some ⟨X.heap.size, 0, none⟩) m1 m1) ∧ (∀ F, Above X.heap.size w' F → P1 F (.slice (some ⟨X.heap.size, 0, none⟩) m1 m1)) ∧ Below X.heap.size X w') :
    Calls Try.prog 6 #[.agg #[vi, vd]] w fun e w' => ∃ (g0 : Nat) (g1 : Nat), e = .returned (.agg #[.slice (some ⟨g0, 0, none⟩) m0 m0, .slice (some ⟨g1, 0, none⟩) m1 m1]) ∧ (∀ F, Above w.heap.size w' F → P0 F (.slice (some ⟨g0, 0, none⟩) m0 m0) ∧ P1 F (.slice (some ⟨g1, 0, none⟩) m1 m1)) ∧ Below w.heap.size w w' := by
  have hT0 : ToB w (((w.alloc (.cells #[vi, vd] 25)).alloc (.cells #[.slice none 0 0, .slice none 0 0] 30)).alloc (.cells #[.slice none 0 0, .slice none 0 0] 30)) 25 30 #[vi, vd] #[.slice none 0 0, .slice none 0 0] #[.slice none 0 0, .slice none 0 0] := ToB.start
  have D0 : Hid (type_of% C0) := C0
  have D1 : Hid (type_of% C1) := C1
  clear C0 C1
  go_enter Try.func6, Try.ntmps6
  go_wp2_with fail
  generalize (((w.alloc (.cells #[vi, vd] 25)).alloc (.cells #[.slice none 0 0, .slice none 0 0] 30)).alloc (.cells #[.slice none 0 0, .slice none 0 0] 30)) = X0 at *
  refine (D0.out _ hT0.bel).mono ?_
  rintro e Y0 ⟨rfl, hk0, hb0⟩
  obtain ⟨g0, hg0⟩ : ∃ g, g = X0.heap.size := ⟨_, rfl⟩
  have hl0 : (w.heap.size + 1 + 1 + 1) ≤ g0 := by have := hT0.size; omega
  rw [← hg0] at hk0 ⊢
  have K0 : KpX (w.heap.size + 1 + 1 + 1) Y0 fun F => P0 F (.slice (some ⟨g0, 0, none⟩) m0 m0) := fun F hF => hk0 F (hF.mono hl0)
  clear hk0 hg0
  have hU0_0 := hT0.call hb0
  have st0_0 : Y0.cell? ⟨w.heap.size + 1 + 1, 0, none⟩ = some (.slice none 0 0) := by rw [cell_of_row _ _ 0 _ _ (0, 0) hU0_0.out]; rfl
  have sf0_0 : Y0.frozen? ⟨w.heap.size + 1 + 1, 0, none⟩ = false := frozen_of_row _ _ 0 _ _ hU0_0.out
  have hU0_1 : ToB w (Y0.setCell ⟨w.heap.size + 1 + 1, 0, none⟩ (.slice (some ⟨g0, 0, none⟩) m0 m0)) 25 30 #[vi, vd] #[.slice none 0 0, .slice none 0 0] #[.slice (some ⟨g0, 0, none⟩) m0 m0, .slice none 0 0] := hU0_0.set 0 _ (heap_setCell_same _ _ 0 _ _ _ hU0_0.out)
  have ab0 : Above (w.heap.size + 1 + 1 + 1) Y0 (Y0.setCell ⟨w.heap.size + 1 + 1, 0, none⟩ (.slice (some ⟨g0, 0, none⟩) m0 m0)) := by
    exact (Above.trans (Above.refl _ _) (Above.set _ _ _ (by show w.heap.size + 1 + 1 < _; omega)))
  have L0 : Hid (type_of% (K0.step ab0)) := K0.step ab0
  have HV : Hid (type_of% hU0_1) := hU0_1
  have ld0_1 : (Y0.setCell ⟨w.heap.size + 1 + 1, 0, none⟩ (.slice (some ⟨g0, 0, none⟩) m0 m0)).cell? ⟨w.heap.size, 1, none⟩ = some (vd) := by rw [cell_of_row _ _ 1 _ _ (0, 0) hU0_1.arg]; rfl
  clear K0 ab0 hb0 hT0 D0 hU0_0 hU0_1 hl0
  go_wp2_with fail
  clear st0_0 sf0_0 ld0_1
  generalize (Y0.setCell ⟨w.heap.size + 1 + 1, 0, none⟩ (.slice (some ⟨g0, 0, none⟩) m0 m0)) = X1 at *
  have hT1 := HV.out
  have K0 := L0.out
  clear HV L0
  refine (D1.out _ hT1.bel).mono ?_
  rintro e Y1 ⟨rfl, hk1, hb1⟩
  obtain ⟨g1, hg1⟩ : ∃ g, g = X1.heap.size := ⟨_, rfl⟩
  have hl1 : (w.heap.size + 1 + 1 + 1) ≤ g1 := by have := hT1.size; omega
  rw [← hg1] at hk1 ⊢
  have K1 : KpX (w.heap.size + 1 + 1 + 1) Y1 fun F => P1 F (.slice (some ⟨g1, 0, none⟩) m1 m1) := fun F hF => hk1 F (hF.mono hl1)
  clear hk1 hg1
  have K0y := K0.step (Above.of_below (B := (w.heap.size + 1 + 1 + 1)) hb1)
  have hU1_0 := hT1.call hb1
  have st1_1 : Y1.cell? ⟨w.heap.size + 1 + 1, 1, none⟩ = some (.slice none 0 0) := by rw [cell_of_row _ _ 1 _ _ (0, 0) hU1_0.out]; rfl
  have sf1_1 : Y1.frozen? ⟨w.heap.size + 1 + 1, 1, none⟩ = false := frozen_of_row _ _ 1 _ _ hU1_0.out
  have hU1_1 : ToB w (Y1.setCell ⟨w.heap.size + 1 + 1, 1, none⟩ (.slice (some ⟨g1, 0, none⟩) m1 m1)) 25 30 #[vi, vd] #[.slice none 0 0, .slice none 0 0] #[.slice (some ⟨g0, 0, none⟩) m0 m0, .slice (some ⟨g1, 0, none⟩) m1 m1] := hU1_0.set 1 _ (heap_setCell_same _ _ 1 _ _ _ hU1_0.out)
  have ab1 : Above (w.heap.size + 1 + 1 + 1) Y1 (Y1.setCell ⟨w.heap.size + 1 + 1, 1, none⟩ (.slice (some ⟨g1, 0, none⟩) m1 m1)) := by
    exact (Above.trans (Above.refl _ _) (Above.set _ _ _ (by show w.heap.size + 1 + 1 < _; omega)))
  have L0 : Hid (type_of% (K0y.step ab1)) := K0y.step ab1
  have L1 : Hid (type_of% (K1.step ab1)) := K1.step ab1
  have HV : Hid (type_of% hU1_1) := hU1_1
  have ld1_0 : (Y1.setCell ⟨w.heap.size + 1 + 1, 1, none⟩ (.slice (some ⟨g1, 0, none⟩) m1 m1)).cell? ⟨w.heap.size + 1 + 1, 0, none⟩ = some (.slice (some ⟨g0, 0, none⟩) m0 m0) := by rw [cell_of_row _ _ 0 _ _ (0, 0) hU1_1.out]; rfl
  have rs1_0 : (Y1.setCell ⟨w.heap.size + 1 + 1, 1, none⟩ (.slice (some ⟨g1, 0, none⟩) m1 m1)).cell? ⟨w.heap.size + 1, 0, none⟩ = some (.slice none 0 0) := by rw [cell_of_row _ _ 0 _ _ (0, 0) hU1_1.res]; rfl
  have rf1_0 : (Y1.setCell ⟨w.heap.size + 1 + 1, 1, none⟩ (.slice (some ⟨g1, 0, none⟩) m1 m1)).frozen? ⟨w.heap.size + 1, 0, none⟩ = false := frozen_of_row _ _ 0 _ _ hU1_1.res
  have ld1_1 : (Y1.setCell ⟨w.heap.size + 1 + 1, 1, none⟩ (.slice (some ⟨g1, 0, none⟩) m1 m1)).cell? ⟨w.heap.size + 1 + 1, 1, none⟩ = some (.slice (some ⟨g1, 0, none⟩) m1 m1) := by rw [cell_of_row _ _ 1 _ _ (0, 0) hU1_1.out]; rfl
  have rs1_1 : (Y1.setCell ⟨w.heap.size + 1 + 1, 1, none⟩ (.slice (some ⟨g1, 0, none⟩) m1 m1)).cell? ⟨w.heap.size + 1, 1, none⟩ = some (.slice none 0 0) := by rw [cell_of_row _ _ 1 _ _ (0, 0) hU1_1.res]; rfl
  have rf1_1 : (Y1.setCell ⟨w.heap.size + 1 + 1, 1, none⟩ (.slice (some ⟨g1, 0, none⟩) m1 m1)).frozen? ⟨w.heap.size + 1, 1, none⟩ = false := frozen_of_row _ _ 1 _ _ hU1_1.res
  clear K1 K0 K0y ab1 hb1 hT1 D1 hU1_0 hU1_1 hl1
  have HEND : Hid ((putL (Y1.setCell ⟨w.heap.size + 1 + 1, 1, none⟩ (.slice (some ⟨g1, 0, none⟩) m1 m1)) (w.heap.size + 1) 0 [.slice (some ⟨g0, 0, none⟩) m0 m0, .slice (some ⟨g1, 0, none⟩) m1 m1]).heap[w.heap.size + 1]? = some (.cells #[.slice (some ⟨g0, 0, none⟩) m0 m0, .slice (some ⟨g1, 0, none⟩) m1 m1] 30 (0, 0)) ∧ (∀ F, Above w.heap.size (putL (Y1.setCell ⟨w.heap.size + 1 + 1, 1, none⟩ (.slice (some ⟨g1, 0, none⟩) m1 m1)) (w.heap.size + 1) 0 [.slice (some ⟨g0, 0, none⟩) m0 m0, .slice (some ⟨g1, 0, none⟩) m1 m1]) F → P0 F (.slice (some ⟨g0, 0, none⟩) m0 m0) ∧ P1 F (.slice (some ⟨g1, 0, none⟩) m1 m1)) ∧ Below w.heap.size w (putL (Y1.setCell ⟨w.heap.size + 1 + 1, 1, none⟩ (.slice (some ⟨g1, 0, none⟩) m1 m1)) (w.heap.size + 1) 0 [.slice (some ⟨g0, 0, none⟩) m0 m0, .slice (some ⟨g1, 0, none⟩) m1 m1])) :=
    ⟨putL_row HV.out.res rfl, fun F hF => ⟨L0.out F ((putL_above (by show w.heap.size + 1 < _; omega)).trans (hF.mono (by omega))), L1.out F ((putL_above (by show w.heap.size + 1 < _; omega)).trans (hF.mono (by omega)))⟩, putL_below HV.out.bel (by omega)⟩
  clear HV L0 L1
  go_wp2_with fail
  simp only [putL, Nat.zero_add] at HEND
  exact ret_toModC (b := w.heap.size + 1) rfl HEND.out.1 ⟨g0, g1, rfl, HEND.out.2.1, HEND.out.2.2⟩

theorem lawsToMd (n : Nat) (vi vd : Value) (im : List ByteArray) (ds : List Df) (w : World) (h : MdAt w n vi vd im ds) (hbk : mdBulk n im ds ≤ 1048576) :
    Calls Try.prog 6 #[.agg #[vi, vd]] w fun e w' => ∃ g0 g1 : Nat, e = .returned (.agg #[.slice (some ⟨g0, 0, none⟩) im.length im.length, .slice (some ⟨g1, 0, none⟩) ds.length ds.length]) ∧ MdW w' n (.slice (some ⟨g0, 0, none⟩) im.length im.length) (.slice (some ⟨g1, 0, none⟩) ds.length ds.length) im ds ∧ Below w.heap.size w w' := by
  unfold mdBulk at hbk
  refine (toModC im.length ds.length vi vd (fun F u => Texts F u im) (fun F u => RowZ 16 F (DfW F n) u ds) w (toTextsK vi im w h.im.1 (by omega)) (fun X hX => lawsToDfs n (lawsToDf n) vd ds X (h.ds.2.below hX fun _ _ _ h => h.below hX) (by omega))).mono ?_
  rintro e w' ⟨g0, g1, rfl, h1, h2⟩
  exact ⟨g0, g1, rfl, ⟨⟨(h1 w' (Above.refl _ _)).1, h.im.2⟩, h.ds.1, (h1 w' (Above.refl _ _)).2⟩, h2⟩

end Go.Proofs.Ytegdladpkikicaa

/-
  The walks of impl.sameTypes, sameExps, sameDef, slices.EqualFunc and impl.SameModule.
-/
import Derived.Test.YtegdladpkikicaaSmI
namespace Go.Proofs.Ytegdladpkikicaa
open Go.RowKit

theorem SameL.one {α : Type} {hs : α → α → Prop} {kids : α → List α} {a b : α} : SameL hs kids [a] [b] ↔ SameT hs kids a b := by
  constructor
  · intro h
    exact h.2 0 (by simp) (by simp)
  · intro h
    refine ⟨rfl, fun j h1 h2 => ?_⟩
    obtain rfl : j = 0 := by simpa using h1
    exact h
theorem oneZ {α : Type} {z : Nat} {X : World} {R : List Value → α → Prop} {g : Nat} {cs : Array Value} {t : TypeId} {a : α} (h : X.heap[g]? = some (.cells cs t (0, 0))) (hR : R cs.toList a) : RowZ z X R (.slice (some ⟨g, 0, none⟩) 1 1) [a] := by
  refine .inr ⟨g, 0, 1, rfl, ⟨_, _, h⟩, fun j hj => ⟨cs.toList, ?_, fun c u hu => ?_⟩⟩
  · obtain rfl : j = 0 := by simpa using hj
    exact hR
  · obtain rfl : j = 0 := by simpa using hj
    rw [cell_of_row _ _ _ _ _ (0, 0) h]
    simpa using hu

set_option maxHeartbeats 800000 in
set_option maxRecDepth 100000 in
open Classical in
theorem implSameTys (n : Nat) (aa ba : Option Addr) (ac bc : Nat) (la lb : List Ty) (w : World) (h1 : RowZ 4 w (TyW w n) (.slice aa la.length ac) la) (h2 : RowZ 4 w (TyW w n) (.slice ba lb.length bc) lb) (h3 : bulkA (Ty.bulk n) la ≤ 1048577) :
    Calls Try.prog 23 #[.slice aa la.length ac, .slice ba lb.length bc] w fun e w' => e = .returned (.bool (decide (SameL TyHs Ty.kids la lb))) ∧ Below w.heap.size w w' := by
  have HC : Hid (type_of% (implTreesT ⟨aa, ac, ba, bc, ⟨la, lb⟩, n⟩ w ⟨h1, h2, h3⟩)) := implTreesT ⟨aa, ac, ba, bc, ⟨la, lb⟩, n⟩ w ⟨h1, h2, h3⟩
  clear h1 h2 h3
  go_enter Try.func23, Try.ntmps23
  go_wp2_with fail
  refine HC.out.mono ?_
  rintro e w2 ⟨rfl, hb2⟩
  go_wp2_with fail
  go_ret
  exact ⟨rfl, hb2⟩

set_option maxHeartbeats 800000 in
set_option maxRecDepth 100000 in
open Classical in
theorem implSameXps (n : Nat) (aa ba : Option Addr) (ac bc : Nat) (la lb : List Xp) (w : World) (h1 : RowZ 6 w (XpW w n) (.slice aa la.length ac) la) (h2 : RowZ 6 w (XpW w n) (.slice ba lb.length bc) lb) (h3 : bulkA (Xp.bulk n) la ≤ 1048577) :
    Calls Try.prog 24 #[.slice aa la.length ac, .slice ba lb.length bc] w fun e w' => e = .returned (.bool (decide (SameL XpHs Xp.kids la lb))) ∧ Below w.heap.size w w' := by
  have HC : Hid (type_of% (implTreesX ⟨aa, ac, ba, bc, ⟨la, lb⟩, n⟩ w ⟨h1, h2, h3⟩)) := implTreesX ⟨aa, ac, ba, bc, ⟨la, lb⟩, n⟩ w ⟨h1, h2, h3⟩
  clear h1 h2 h3
  go_enter Try.func24, Try.ntmps24
  go_wp2_with fail
  refine HC.out.mono ?_
  rintro e w2 ⟨rfl, hb2⟩
  go_wp2_with fail
  go_ret
  exact ⟨rfl, hb2⟩

set_option maxHeartbeats 6400000 in
set_option maxRecDepth 100000 in
open Classical in
theorem implSameDef (n : Nat) (ca cb : List Value) (a b : Df) (w : World) (hA : DfW w n ca a) (hB : DfW w n cb b) (hbk : Df.bulk n a ≤ 1048576) :
    Calls Try.prog 18 #[.agg ca.toArray, .agg cb.toArray] w fun e w' => e = .returned (.bool (decide (DfSame a b))) ∧ Below w.heap.size w w' := by
  obtain ⟨ap, att, at0, at1, at2, at3, ax0, ax1, ax2, ax3, ax4, ax5, rfl, _, ⟨hTa, _, _⟩, ⟨_, hra⟩, hya, hxa⟩ := hA
  obtain ⟨bp, btt, bt0, bt1, bt2, bt3, bx0, bx1, bx2, bx3, bx4, bx5, rfl, _, ⟨hTb, _, _⟩, ⟨_, hrb⟩, hyb, hxb⟩ := hB
  unfold Df.bulk at hbk
  obtain ⟨aa, ac, rfl, _⟩ := hra.open (fun cs t h => by rw [h.len]; decide)
  obtain ⟨ba, bc, rfl, _⟩ := hrb.open (fun cs t h => by rw [h.len]; decide)
  have hB1 : Below w.heap.size w ((w.alloc (.cells #[.int .i64 a.kind, .string a.name, .int .i64 a.line, ap, .slice aa a.types.length ac, .bool a.typed, at0, at1, at2, at3, ax0, ax1, ax2, ax3, ax4, ax5] 43)).alloc (.cells #[.int .i64 b.kind, .string b.name, .int .i64 b.line, bp, .slice ba b.types.length bc, .bool b.typed, bt0, bt1, bt2, bt3, bx0, bx1, bx2, bx3, bx4, bx5] 43)) := ((Below.refl _ _).alloc (Nat.le_refl _) _).alloc (by simp) _
  have HA : Hid (∀ X : World, Below (w.heap.size + 1 + 1) ((w.alloc (.cells #[.int .i64 a.kind, .string a.name, .int .i64 a.line, ap, .slice aa a.types.length ac, .bool a.typed, at0, at1, at2, at3, ax0, ax1, ax2, ax3, ax4, ax5] 43)).alloc (.cells #[.int .i64 b.kind, .string b.name, .int .i64 b.line, bp, .slice ba b.types.length bc, .bool b.typed, bt0, bt1, bt2, bt3, bx0, bx1, bx2, bx3, bx4, bx5] 43)) X → (X.cell? ⟨w.heap.size, 0, none⟩ = some (.int .i64 a.kind) ∧ X.cell? ⟨w.heap.size, 1, none⟩ = some (.string a.name) ∧ X.cell? ⟨w.heap.size, 2, none⟩ = some (.int .i64 a.line) ∧ X.cell? ⟨w.heap.size, 3, none⟩ = some (ap) ∧ X.cell? ⟨w.heap.size, 4, none⟩ = some (.slice aa a.types.length ac) ∧ X.cell? ⟨w.heap.size, 5, none⟩ = some (.bool a.typed) ∧ X.cell? ⟨w.heap.size, 6, none⟩ = some (at0) ∧ X.cell? ⟨w.heap.size, 7, none⟩ = some (at1) ∧ X.cell? ⟨w.heap.size, 8, none⟩ = some (at2) ∧ X.cell? ⟨w.heap.size, 9, none⟩ = some (at3) ∧ X.cell? ⟨w.heap.size, 10, none⟩ = some (ax0) ∧ X.cell? ⟨w.heap.size, 11, none⟩ = some (ax1) ∧ X.cell? ⟨w.heap.size, 12, none⟩ = some (ax2) ∧ X.cell? ⟨w.heap.size, 13, none⟩ = some (ax3) ∧ X.cell? ⟨w.heap.size, 14, none⟩ = some (ax4) ∧ X.cell? ⟨w.heap.size, 15, none⟩ = some (ax5) ∧ X.cell? ⟨w.heap.size + 1, 0, none⟩ = some (.int .i64 b.kind) ∧ X.cell? ⟨w.heap.size + 1, 1, none⟩ = some (.string b.name) ∧ X.cell? ⟨w.heap.size + 1, 2, none⟩ = some (.int .i64 b.line) ∧ X.cell? ⟨w.heap.size + 1, 3, none⟩ = some (bp) ∧ X.cell? ⟨w.heap.size + 1, 4, none⟩ = some (.slice ba b.types.length bc) ∧ X.cell? ⟨w.heap.size + 1, 5, none⟩ = some (.bool b.typed) ∧ X.cell? ⟨w.heap.size + 1, 6, none⟩ = some (bt0) ∧ X.cell? ⟨w.heap.size + 1, 7, none⟩ = some (bt1) ∧ X.cell? ⟨w.heap.size + 1, 8, none⟩ = some (bt2) ∧ X.cell? ⟨w.heap.size + 1, 9, none⟩ = some (bt3) ∧ X.cell? ⟨w.heap.size + 1, 10, none⟩ = some (bx0) ∧ X.cell? ⟨w.heap.size + 1, 11, none⟩ = some (bx1) ∧ X.cell? ⟨w.heap.size + 1, 12, none⟩ = some (bx2) ∧ X.cell? ⟨w.heap.size + 1, 13, none⟩ = some (bx3) ∧ X.cell? ⟨w.heap.size + 1, 14, none⟩ = some (bx4) ∧ X.cell? ⟨w.heap.size + 1, 15, none⟩ = some (bx5)) ∧ Below w.heap.size w X) := fun X hX => by
    have hr := (hX.block w.heap.size (by omega)).trans ((Below.heap_alloc _ _ _ (by simp)).trans (MapKept.heap_alloc w (.cells #[.int .i64 a.kind, .string a.name, .int .i64 a.line, ap, .slice aa a.types.length ac, .bool a.typed, at0, at1, at2, at3, ax0, ax1, ax2, ax3, ax4, ax5] 43)).1)
    have hs0 := (MapKept.heap_alloc (w.alloc (.cells #[.int .i64 a.kind, .string a.name, .int .i64 a.line, ap, .slice aa a.types.length ac, .bool a.typed, at0, at1, at2, at3, ax0, ax1, ax2, ax3, ax4, ax5] 43)) (.cells #[.int .i64 b.kind, .string b.name, .int .i64 b.line, bp, .slice ba b.types.length bc, .bool b.typed, bt0, bt1, bt2, bt3, bx0, bx1, bx2, bx3, bx4, bx5] 43)).1
    rw [show (w.alloc (.cells #[.int .i64 a.kind, .string a.name, .int .i64 a.line, ap, .slice aa a.types.length ac, .bool a.typed, at0, at1, at2, at3, ax0, ax1, ax2, ax3, ax4, ax5] 43)).heap.size = w.heap.size + 1 from by simp] at hs0
    have hs := (hX.block (w.heap.size + 1) (by omega)).trans hs0
    exact ⟨⟨by rw [cell_of_row _ _ 0 _ _ (0, 0) hr]; rfl, by rw [cell_of_row _ _ 1 _ _ (0, 0) hr]; rfl, by rw [cell_of_row _ _ 2 _ _ (0, 0) hr]; rfl, by rw [cell_of_row _ _ 3 _ _ (0, 0) hr]; rfl, by rw [cell_of_row _ _ 4 _ _ (0, 0) hr]; rfl, by rw [cell_of_row _ _ 5 _ _ (0, 0) hr]; rfl, by rw [cell_of_row _ _ 6 _ _ (0, 0) hr]; rfl, by rw [cell_of_row _ _ 7 _ _ (0, 0) hr]; rfl, by rw [cell_of_row _ _ 8 _ _ (0, 0) hr]; rfl, by rw [cell_of_row _ _ 9 _ _ (0, 0) hr]; rfl, by rw [cell_of_row _ _ 10 _ _ (0, 0) hr]; rfl, by rw [cell_of_row _ _ 11 _ _ (0, 0) hr]; rfl, by rw [cell_of_row _ _ 12 _ _ (0, 0) hr]; rfl, by rw [cell_of_row _ _ 13 _ _ (0, 0) hr]; rfl, by rw [cell_of_row _ _ 14 _ _ (0, 0) hr]; rfl, by rw [cell_of_row _ _ 15 _ _ (0, 0) hr]; rfl, by rw [cell_of_row _ _ 0 _ _ (0, 0) hs]; rfl, by rw [cell_of_row _ _ 1 _ _ (0, 0) hs]; rfl, by rw [cell_of_row _ _ 2 _ _ (0, 0) hs]; rfl, by rw [cell_of_row _ _ 3 _ _ (0, 0) hs]; rfl, by rw [cell_of_row _ _ 4 _ _ (0, 0) hs]; rfl, by rw [cell_of_row _ _ 5 _ _ (0, 0) hs]; rfl, by rw [cell_of_row _ _ 6 _ _ (0, 0) hs]; rfl, by rw [cell_of_row _ _ 7 _ _ (0, 0) hs]; rfl, by rw [cell_of_row _ _ 8 _ _ (0, 0) hs]; rfl, by rw [cell_of_row _ _ 9 _ _ (0, 0) hs]; rfl, by rw [cell_of_row _ _ 10 _ _ (0, 0) hs]; rfl, by rw [cell_of_row _ _ 11 _ _ (0, 0) hs]; rfl, by rw [cell_of_row _ _ 12 _ _ (0, 0) hs]; rfl, by rw [cell_of_row _ _ 13 _ _ (0, 0) hs]; rfl, by rw [cell_of_row _ _ 14 _ _ (0, 0) hs]; rfl, by rw [cell_of_row _ _ 15 _ _ (0, 0) hs]; rfl⟩, hB1.trans (hX.mono (by omega))⟩
  have C3 : ∀ X : World, Below w.heap.size w X → Calls Try.prog 16 #[ap, bp] X fun e w' => e = .returned (.bool (decide (a.params = b.params))) ∧ Below X.heap.size X w' := fun X hX => implEqualT ap bp a.params b.params X (hTa.below hX) (hTb.below hX) (by omega)
  have C4 : ∀ X : World, Below w.heap.size w X → Calls Try.prog 23 #[.slice aa a.types.length ac, .slice ba b.types.length bc] X fun e w' => e = .returned (.bool (decide (SameL TyHs Ty.kids a.types b.types))) ∧ Below X.heap.size X w' := fun X hX => implSameTys n aa ba ac bc a.types b.types X (hra.below hX fun _ _ _ h => h.below hX) (hrb.below hX fun _ _ _ h => h.below hX) (by have : rowBulk n a.types = bulkA (Ty.bulk n) a.types := rfl; omega)
  have C5 : ∀ Y : World, Below w.heap.size w Y → Calls Try.prog 23 #[.slice (some ⟨Y.heap.size, 0, none⟩) 1 1, .slice (some ⟨Y.heap.size + 1, 0, none⟩) 1 1] ((Y.alloc (.cells #[at0, at1, at2, at3] 38)).alloc (.cells #[bt0, bt1, bt2, bt3] 38)) fun e w' => e = .returned (.bool (decide (TySame a.ty b.ty))) ∧ Below Y.heap.size Y w' := fun Y hY => by
    have hX : Below Y.heap.size Y ((Y.alloc (.cells #[at0, at1, at2, at3] 38)).alloc (.cells #[bt0, bt1, bt2, bt3] 38)) := ((Below.refl _ _).alloc (Nat.le_refl _) _).alloc (by simp) _
    have hX2 := hY.trans (hX.mono hY.size)
    have r1 := (Below.heap_alloc (Y.alloc (.cells #[at0, at1, at2, at3] 38)) (.cells #[bt0, bt1, bt2, bt3] 38) Y.heap.size (by simp)).trans (MapKept.heap_alloc Y (.cells #[at0, at1, at2, at3] 38)).1
    have r2 := (MapKept.heap_alloc (Y.alloc (.cells #[at0, at1, at2, at3] 38)) (.cells #[bt0, bt1, bt2, bt3] 38)).1
    rw [show (Y.alloc (.cells #[at0, at1, at2, at3] 38)).heap.size = Y.heap.size + 1 from by simp] at r2
    refine (implSameTys n (some ⟨Y.heap.size, 0, none⟩) (some ⟨Y.heap.size + 1, 0, none⟩) 1 1 [a.ty] [b.ty] _ (oneZ r1 (hya.below hX2)) (oneZ r2 (hyb.below hX2)) (by unfold bulkA sumA; simp; omega)).mono ?_
    rintro e w' ⟨rfl, hb⟩
    exact ⟨by congr 2; exact decide_eq_decide.2 SameL.one, hX.trans (hb.mono hX.size)⟩
  have C6 : ∀ Y : World, Below w.heap.size w Y → Calls Try.prog 24 #[.slice (some ⟨Y.heap.size, 0, none⟩) 1 1, .slice (some ⟨Y.heap.size + 1, 0, none⟩) 1 1] ((Y.alloc (.cells #[ax0, ax1, ax2, ax3, ax4, ax5] 41)).alloc (.cells #[bx0, bx1, bx2, bx3, bx4, bx5] 41)) fun e w' => e = .returned (.bool (decide (XpSame a.exp b.exp))) ∧ Below Y.heap.size Y w' := fun Y hY => by
    have hX : Below Y.heap.size Y ((Y.alloc (.cells #[ax0, ax1, ax2, ax3, ax4, ax5] 41)).alloc (.cells #[bx0, bx1, bx2, bx3, bx4, bx5] 41)) := ((Below.refl _ _).alloc (Nat.le_refl _) _).alloc (by simp) _
    have hX2 := hY.trans (hX.mono hY.size)
    have r1 := (Below.heap_alloc (Y.alloc (.cells #[ax0, ax1, ax2, ax3, ax4, ax5] 41)) (.cells #[bx0, bx1, bx2, bx3, bx4, bx5] 41) Y.heap.size (by simp)).trans (MapKept.heap_alloc Y (.cells #[ax0, ax1, ax2, ax3, ax4, ax5] 41)).1
    have r2 := (MapKept.heap_alloc (Y.alloc (.cells #[ax0, ax1, ax2, ax3, ax4, ax5] 41)) (.cells #[bx0, bx1, bx2, bx3, bx4, bx5] 41)).1
    rw [show (Y.alloc (.cells #[ax0, ax1, ax2, ax3, ax4, ax5] 41)).heap.size = Y.heap.size + 1 from by simp] at r2
    refine (implSameXps n (some ⟨Y.heap.size, 0, none⟩) (some ⟨Y.heap.size + 1, 0, none⟩) 1 1 [a.exp] [b.exp] _ (oneZ r1 (hxa.below hX2)) (oneZ r2 (hxb.below hX2)) (by unfold bulkA sumA; simp; omega)).mono ?_
    rintro e w' ⟨rfl, hb⟩
    exact ⟨by congr 2; exact decide_eq_decide.2 SameL.one, hX.trans (hb.mono hX.size)⟩
  have HN : Hid (¬ DfSame a b → decide (DfSame a b) = false) := fun h => decide_eq_false h
  have D3 : Hid (type_of% C3) := C3
  have D4 : Hid (type_of% C4) := C4
  have D5 : Hid (type_of% C5) := C5
  have D6 : Hid (type_of% C6) := C6
  clear hTa hTb hra hrb hya hyb hxa hxb hbk C3 C4 C5 C6
  by_cases c0 : a.kind = b.kind
  rotate_left
  · have x0 : (a.kind == b.kind) = false := by simpa using c0
    have HR : Hid (type_of% (HN.out fun h => c0 h.1)) := HN.out fun h => c0 h.1
    clear HN c0 D3 D4 D5 D6
    go_enter Try.func18, Try.ntmps18
    go_wp2_with fail
    go_ret
    exact ⟨by rw [HR.out]; rfl, hB1⟩
  have K0 : Hid (type_of% c0) := c0
  have x0 : (a.kind == b.kind) = true := by simpa using c0
  clear c0
  by_cases c1 : a.name = b.name
  rotate_left
  · have x1 : (a.name.toList == b.name.toList) = false := text_otherS c1
    have HR : Hid (type_of% (HN.out fun h => c1 h.2.1)) := HN.out fun h => c1 h.2.1
    clear HN c1 D3 D4 D5 D6
    go_enter Try.func18, Try.ntmps18
    go_wp2_with fail
    go_ret
    exact ⟨by rw [HR.out]; rfl, hB1⟩
  have K1 : Hid (type_of% c1) := c1
  have x1 : (a.name.toList == b.name.toList) = true := by rw [c1]; exact beq_self_eq_true _
  clear c1
  by_cases c2 : a.typed = b.typed
  rotate_left
  · have x2 : (a.typed == b.typed) = false := by simpa using c2
    have HR : Hid (type_of% (HN.out fun h => c2 h.2.2.2.1)) := HN.out fun h => c2 h.2.2.2.1
    have x2b : (a.typed == b.typed) = false := x2
    clear HN c2 D3 D4 D5 D6
    go_enter Try.func18, Try.ntmps18
    go_wp2_with fail
    go_ret
    exact ⟨by rw [HR.out]; rfl, hB1⟩
  have K2 : Hid (type_of% c2) := c2
  have x2 : (a.typed == b.typed) = true := by simpa using c2
  clear c2
  by_cases c3 : a.params = b.params
  rotate_left
  · have x3 : decide (a.params = b.params) = false := decide_eq_false c3
    have E3 := D3.out
    simp only [x3] at E3
    have E3' : Hid (type_of% E3) := E3
    have HR : Hid (type_of% (HN.out fun h => c3 h.2.2.1)) := HN.out fun h => c3 h.2.2.1
    clear E3 HN c3 x3 D3 D4 D5 D6
    go_enter Try.func18, Try.ntmps18
    go_wp2_with fail
    refine (E3'.out _ hB1).mono ?_
    rintro e w1 ⟨rfl, hb1⟩
    have G1 : Below (w.heap.size + 1 + 1) ((w.alloc (.cells #[.int .i64 a.kind, .string a.name, .int .i64 a.line, ap, .slice aa a.types.length ac, .bool a.typed, at0, at1, at2, at3, ax0, ax1, ax2, ax3, ax4, ax5] 43)).alloc (.cells #[.int .i64 b.kind, .string b.name, .int .i64 b.line, bp, .slice ba b.types.length bc, .bool b.typed, bt0, bt1, bt2, bt3, bx0, bx1, bx2, bx3, bx4, bx5] 43)) w1 := hb1.mono (by simp)
    have z1 : w.heap.size + 1 + 1 ≤ w1.heap.size := by have := G1.size; simpa using this
    obtain ⟨⟨y1_0, y1_1, y1_2, y1_3, y1_4, y1_5, y1_6, y1_7, y1_8, y1_9, y1_10, y1_11, y1_12, y1_13, y1_14, y1_15, y1_16, y1_17, y1_18, y1_19, y1_20, y1_21, y1_22, y1_23, y1_24, y1_25, y1_26, y1_27, y1_28, y1_29, y1_30, y1_31⟩, q1⟩ := HA.out _ G1
    go_wp2_with fail
    go_ret
    exact ⟨by rw [HR.out]; rfl, q1⟩
  have K3 : Hid (a.params = b.params) := c3
  have x3 : decide (a.params = b.params) = true := decide_eq_true c3
  have F3 := D3.out
  simp only [x3] at F3
  have E3 : Hid (type_of% F3) := F3
  clear c3 x3 F3 D3
  by_cases c4 : SameL TyHs Ty.kids a.types b.types
  rotate_left
  · have x4 : decide (SameL TyHs Ty.kids a.types b.types) = false := decide_eq_false c4
    have E4 := D4.out
    simp only [x4] at E4
    have E4' : Hid (type_of% E4) := E4
    have HR : Hid (type_of% (HN.out fun h => c4 h.2.2.2.2.1)) := HN.out fun h => c4 h.2.2.2.2.1
    clear E4 HN c4 x4 D4 D5 D6
    go_enter Try.func18, Try.ntmps18
    go_wp2_with fail
    refine (E3.out _ hB1).mono ?_
    rintro e w1 ⟨rfl, hb1⟩
    have G1 : Below (w.heap.size + 1 + 1) ((w.alloc (.cells #[.int .i64 a.kind, .string a.name, .int .i64 a.line, ap, .slice aa a.types.length ac, .bool a.typed, at0, at1, at2, at3, ax0, ax1, ax2, ax3, ax4, ax5] 43)).alloc (.cells #[.int .i64 b.kind, .string b.name, .int .i64 b.line, bp, .slice ba b.types.length bc, .bool b.typed, bt0, bt1, bt2, bt3, bx0, bx1, bx2, bx3, bx4, bx5] 43)) w1 := hb1.mono (by simp)
    have z1 : w.heap.size + 1 + 1 ≤ w1.heap.size := by have := G1.size; simpa using this
    obtain ⟨⟨y1_0, y1_1, y1_2, y1_3, y1_4, y1_5, y1_6, y1_7, y1_8, y1_9, y1_10, y1_11, y1_12, y1_13, y1_14, y1_15, y1_16, y1_17, y1_18, y1_19, y1_20, y1_21, y1_22, y1_23, y1_24, y1_25, y1_26, y1_27, y1_28, y1_29, y1_30, y1_31⟩, q1⟩ := HA.out _ G1
    go_wp2_with fail
    refine (E4'.out _ q1).mono ?_
    rintro e w2 ⟨rfl, hb2⟩
    have G2 := G1.trans (hb2.mono z1)
    have z2 : w.heap.size + 1 + 1 ≤ w2.heap.size := by have := G2.size; simpa using this
    clear y1_0 y1_1 y1_2 y1_3 y1_4 y1_5 y1_6 y1_7 y1_8 y1_9 y1_10 y1_11 y1_12 y1_13 y1_14 y1_15 y1_16 y1_17 y1_18 y1_19 y1_20 y1_21 y1_22 y1_23 y1_24 y1_25 y1_26 y1_27 y1_28 y1_29 y1_30 y1_31
    obtain ⟨⟨y2_0, y2_1, y2_2, y2_3, y2_4, y2_5, y2_6, y2_7, y2_8, y2_9, y2_10, y2_11, y2_12, y2_13, y2_14, y2_15, y2_16, y2_17, y2_18, y2_19, y2_20, y2_21, y2_22, y2_23, y2_24, y2_25, y2_26, y2_27, y2_28, y2_29, y2_30, y2_31⟩, q2⟩ := HA.out _ G2
    go_wp2_with fail
    go_ret
    exact ⟨by rw [HR.out]; rfl, q2⟩
  have K4 : Hid (SameL TyHs Ty.kids a.types b.types) := c4
  have x4 : decide (SameL TyHs Ty.kids a.types b.types) = true := decide_eq_true c4
  have F4 := D4.out
  simp only [x4] at F4
  have E4 : Hid (type_of% F4) := F4
  clear c4 x4 F4 D4
  by_cases c5 : TySame a.ty b.ty
  rotate_left
  · have x5 : decide (TySame a.ty b.ty) = false := decide_eq_false c5
    have E5 := D5.out
    simp only [x5] at E5
    have E5' : Hid (type_of% E5) := E5
    have HR : Hid (type_of% (HN.out fun h => c5 h.2.2.2.2.2.1)) := HN.out fun h => c5 h.2.2.2.2.2.1
    clear E5 HN c5 x5 D5 D6
    go_enter Try.func18, Try.ntmps18
    go_wp2_with fail
    refine (E3.out _ hB1).mono ?_
    rintro e w1 ⟨rfl, hb1⟩
    have G1 : Below (w.heap.size + 1 + 1) ((w.alloc (.cells #[.int .i64 a.kind, .string a.name, .int .i64 a.line, ap, .slice aa a.types.length ac, .bool a.typed, at0, at1, at2, at3, ax0, ax1, ax2, ax3, ax4, ax5] 43)).alloc (.cells #[.int .i64 b.kind, .string b.name, .int .i64 b.line, bp, .slice ba b.types.length bc, .bool b.typed, bt0, bt1, bt2, bt3, bx0, bx1, bx2, bx3, bx4, bx5] 43)) w1 := hb1.mono (by simp)
    have z1 : w.heap.size + 1 + 1 ≤ w1.heap.size := by have := G1.size; simpa using this
    obtain ⟨⟨y1_0, y1_1, y1_2, y1_3, y1_4, y1_5, y1_6, y1_7, y1_8, y1_9, y1_10, y1_11, y1_12, y1_13, y1_14, y1_15, y1_16, y1_17, y1_18, y1_19, y1_20, y1_21, y1_22, y1_23, y1_24, y1_25, y1_26, y1_27, y1_28, y1_29, y1_30, y1_31⟩, q1⟩ := HA.out _ G1
    go_wp2_with fail
    refine (E4.out _ q1).mono ?_
    rintro e w2 ⟨rfl, hb2⟩
    have G2 := G1.trans (hb2.mono z1)
    have z2 : w.heap.size + 1 + 1 ≤ w2.heap.size := by have := G2.size; simpa using this
    clear y1_0 y1_1 y1_2 y1_3 y1_4 y1_5 y1_6 y1_7 y1_8 y1_9 y1_10 y1_11 y1_12 y1_13 y1_14 y1_15 y1_16 y1_17 y1_18 y1_19 y1_20 y1_21 y1_22 y1_23 y1_24 y1_25 y1_26 y1_27 y1_28 y1_29 y1_30 y1_31
    obtain ⟨⟨y2_0, y2_1, y2_2, y2_3, y2_4, y2_5, y2_6, y2_7, y2_8, y2_9, y2_10, y2_11, y2_12, y2_13, y2_14, y2_15, y2_16, y2_17, y2_18, y2_19, y2_20, y2_21, y2_22, y2_23, y2_24, y2_25, y2_26, y2_27, y2_28, y2_29, y2_30, y2_31⟩, q2⟩ := HA.out _ G2
    obtain ⟨⟨v2_0, v2_1, v2_2, v2_3, v2_4, v2_5, v2_6, v2_7, v2_8, v2_9, v2_10, v2_11, v2_12, v2_13, v2_14, v2_15, v2_16, v2_17, v2_18, v2_19, v2_20, v2_21, v2_22, v2_23, v2_24, v2_25, v2_26, v2_27, v2_28, v2_29, v2_30, v2_31⟩, _⟩ := HA.out _ (G2.alloc z2 (.cells #[at0, at1, at2, at3] 38))
    go_wp2_with fail
    refine (E5'.out _ q2).mono ?_
    rintro e w3 ⟨rfl, hb3⟩
    have G3 := G2.trans (hb3.mono z2)
    have z3 : w.heap.size + 1 + 1 ≤ w3.heap.size := by have := G3.size; simpa using this
    clear y2_0 y2_1 y2_2 y2_3 y2_4 y2_5 y2_6 y2_7 y2_8 y2_9 y2_10 y2_11 y2_12 y2_13 y2_14 y2_15 y2_16 y2_17 y2_18 y2_19 y2_20 y2_21 y2_22 y2_23 y2_24 y2_25 y2_26 y2_27 y2_28 y2_29 y2_30 y2_31
    obtain ⟨⟨y3_0, y3_1, y3_2, y3_3, y3_4, y3_5, y3_6, y3_7, y3_8, y3_9, y3_10, y3_11, y3_12, y3_13, y3_14, y3_15, y3_16, y3_17, y3_18, y3_19, y3_20, y3_21, y3_22, y3_23, y3_24, y3_25, y3_26, y3_27, y3_28, y3_29, y3_30, y3_31⟩, q3⟩ := HA.out _ G3
    go_wp2_with fail
    go_ret
    exact ⟨by rw [HR.out]; rfl, q3⟩
  have K5 : Hid (TySame a.ty b.ty) := c5
  have x5 : decide (TySame a.ty b.ty) = true := decide_eq_true c5
  have F5 := D5.out
  simp only [x5] at F5
  have E5 : Hid (type_of% F5) := F5
  clear c5 x5 F5 D5
  have HR : Hid (decide (DfSame a b) = decide (XpSame a.exp b.exp)) := decide_eq_decide.2 ⟨fun h => h.2.2.2.2.2.2, fun h => ⟨K0.out, K1.out, K3.out, K2.out, K4.out, K5.out, h⟩⟩
  have E6 : Hid (type_of% D6.out) := D6.out
  clear HN D6
  go_enter Try.func18, Try.ntmps18
  go_wp2_with fail
  refine (E3.out _ hB1).mono ?_
  rintro e w1 ⟨rfl, hb1⟩
  have G1 : Below (w.heap.size + 1 + 1) ((w.alloc (.cells #[.int .i64 a.kind, .string a.name, .int .i64 a.line, ap, .slice aa a.types.length ac, .bool a.typed, at0, at1, at2, at3, ax0, ax1, ax2, ax3, ax4, ax5] 43)).alloc (.cells #[.int .i64 b.kind, .string b.name, .int .i64 b.line, bp, .slice ba b.types.length bc, .bool b.typed, bt0, bt1, bt2, bt3, bx0, bx1, bx2, bx3, bx4, bx5] 43)) w1 := hb1.mono (by simp)
  have z1 : w.heap.size + 1 + 1 ≤ w1.heap.size := by have := G1.size; simpa using this
  obtain ⟨⟨y1_0, y1_1, y1_2, y1_3, y1_4, y1_5, y1_6, y1_7, y1_8, y1_9, y1_10, y1_11, y1_12, y1_13, y1_14, y1_15, y1_16, y1_17, y1_18, y1_19, y1_20, y1_21, y1_22, y1_23, y1_24, y1_25, y1_26, y1_27, y1_28, y1_29, y1_30, y1_31⟩, q1⟩ := HA.out _ G1
  go_wp2_with fail
  refine (E4.out _ q1).mono ?_
  rintro e w2 ⟨rfl, hb2⟩
  have G2 := G1.trans (hb2.mono z1)
  have z2 : w.heap.size + 1 + 1 ≤ w2.heap.size := by have := G2.size; simpa using this
  clear y1_0 y1_1 y1_2 y1_3 y1_4 y1_5 y1_6 y1_7 y1_8 y1_9 y1_10 y1_11 y1_12 y1_13 y1_14 y1_15 y1_16 y1_17 y1_18 y1_19 y1_20 y1_21 y1_22 y1_23 y1_24 y1_25 y1_26 y1_27 y1_28 y1_29 y1_30 y1_31
  obtain ⟨⟨y2_0, y2_1, y2_2, y2_3, y2_4, y2_5, y2_6, y2_7, y2_8, y2_9, y2_10, y2_11, y2_12, y2_13, y2_14, y2_15, y2_16, y2_17, y2_18, y2_19, y2_20, y2_21, y2_22, y2_23, y2_24, y2_25, y2_26, y2_27, y2_28, y2_29, y2_30, y2_31⟩, q2⟩ := HA.out _ G2
  obtain ⟨⟨v2_0, v2_1, v2_2, v2_3, v2_4, v2_5, v2_6, v2_7, v2_8, v2_9, v2_10, v2_11, v2_12, v2_13, v2_14, v2_15, v2_16, v2_17, v2_18, v2_19, v2_20, v2_21, v2_22, v2_23, v2_24, v2_25, v2_26, v2_27, v2_28, v2_29, v2_30, v2_31⟩, _⟩ := HA.out _ (G2.alloc z2 (.cells #[at0, at1, at2, at3] 38))
  go_wp2_with fail
  refine (E5.out _ q2).mono ?_
  rintro e w3 ⟨rfl, hb3⟩
  have G3 := G2.trans (hb3.mono z2)
  have z3 : w.heap.size + 1 + 1 ≤ w3.heap.size := by have := G3.size; simpa using this
  clear y2_0 y2_1 y2_2 y2_3 y2_4 y2_5 y2_6 y2_7 y2_8 y2_9 y2_10 y2_11 y2_12 y2_13 y2_14 y2_15 y2_16 y2_17 y2_18 y2_19 y2_20 y2_21 y2_22 y2_23 y2_24 y2_25 y2_26 y2_27 y2_28 y2_29 y2_30 y2_31
  obtain ⟨⟨y3_0, y3_1, y3_2, y3_3, y3_4, y3_5, y3_6, y3_7, y3_8, y3_9, y3_10, y3_11, y3_12, y3_13, y3_14, y3_15, y3_16, y3_17, y3_18, y3_19, y3_20, y3_21, y3_22, y3_23, y3_24, y3_25, y3_26, y3_27, y3_28, y3_29, y3_30, y3_31⟩, q3⟩ := HA.out _ G3
  obtain ⟨⟨v3_0, v3_1, v3_2, v3_3, v3_4, v3_5, v3_6, v3_7, v3_8, v3_9, v3_10, v3_11, v3_12, v3_13, v3_14, v3_15, v3_16, v3_17, v3_18, v3_19, v3_20, v3_21, v3_22, v3_23, v3_24, v3_25, v3_26, v3_27, v3_28, v3_29, v3_30, v3_31⟩, _⟩ := HA.out _ (G3.alloc z3 (.cells #[ax0, ax1, ax2, ax3, ax4, ax5] 41))
  go_wp2_with fail
  refine (E6.out _ q3).mono ?_
  rintro e w4 ⟨rfl, hb4⟩
  have G4 := G3.trans (hb4.mono z3)
  have z4 : w.heap.size + 1 + 1 ≤ w4.heap.size := by have := G4.size; simpa using this
  clear y3_0 y3_1 y3_2 y3_3 y3_4 y3_5 y3_6 y3_7 y3_8 y3_9 y3_10 y3_11 y3_12 y3_13 y3_14 y3_15 y3_16 y3_17 y3_18 y3_19 y3_20 y3_21 y3_22 y3_23 y3_24 y3_25 y3_26 y3_27 y3_28 y3_29 y3_30 y3_31
  obtain ⟨⟨y4_0, y4_1, y4_2, y4_3, y4_4, y4_5, y4_6, y4_7, y4_8, y4_9, y4_10, y4_11, y4_12, y4_13, y4_14, y4_15, y4_16, y4_17, y4_18, y4_19, y4_20, y4_21, y4_22, y4_23, y4_24, y4_25, y4_26, y4_27, y4_28, y4_29, y4_30, y4_31⟩, q4⟩ := HA.out _ G4
  go_wp2_with fail
  go_ret
  exact ⟨by rw [HR.out]; rfl, q4⟩

end Go.Proofs.Ytegdladpkikicaa

/-
  The walks of the laws' own helpers eqExp, eqExpS, eqDef, eqDefS and eqModule, at two values that hold the same.
-/
import Derived.Test.YtegdladpkikicaaXpD
import Derived.Test.YtegdladpkikicaaEqTy
namespace Go.Proofs.Ytegdladpkikicaa
open Go.RowKit

set_option maxHeartbeats 1600000 in
set_option maxRecDepth 100000 in
theorem eqExpC (kd nn ln : Int) (tx : ByteArray) (an ak bn bk : Value) (w : World)
    (C0 : ∀ X : World, Below w.heap.size w X → Calls Try.prog 19 #[an, bn] X fun e w' => e = .returned (.bool true) ∧ Below X.heap.size X w')
    (C1 : ∀ X : World, Below w.heap.size w X → Calls Try.prog 45 #[ak, bk] X fun e w' => e = .returned (.bool true) ∧ Below X.heap.size X w') :
    Calls Try.prog 40 #[.agg #[.int .i64 kd, .string tx, .int .i64 nn, .int .i64 ln, an, ak], .agg #[.int .i64 kd, .string tx, .int .i64 nn, .int .i64 ln, bn, bk]] w fun e w' => e = .returned (.bool true) ∧ Below w.heap.size w w' := by
  have hB1 : Below w.heap.size w ((w.alloc (.cells #[.int .i64 kd, .string tx, .int .i64 nn, .int .i64 ln, an, ak] 41)).alloc (.cells #[.int .i64 kd, .string tx, .int .i64 nn, .int .i64 ln, bn, bk] 41)) := ((Below.refl _ _).alloc (Nat.le_refl _) _).alloc (by simp) _
  have HA : Hid (∀ X : World, Below (w.heap.size + 1 + 1) ((w.alloc (.cells #[.int .i64 kd, .string tx, .int .i64 nn, .int .i64 ln, an, ak] 41)).alloc (.cells #[.int .i64 kd, .string tx, .int .i64 nn, .int .i64 ln, bn, bk] 41)) X → (X.cell? ⟨w.heap.size, 0, none⟩ = some (.int .i64 kd) ∧ X.cell? ⟨w.heap.size, 1, none⟩ = some (.string tx) ∧ X.cell? ⟨w.heap.size, 2, none⟩ = some (.int .i64 nn) ∧ X.cell? ⟨w.heap.size, 3, none⟩ = some (.int .i64 ln) ∧ X.cell? ⟨w.heap.size, 4, none⟩ = some (an) ∧ X.cell? ⟨w.heap.size, 5, none⟩ = some (ak) ∧ X.cell? ⟨w.heap.size + 1, 0, none⟩ = some (.int .i64 kd) ∧ X.cell? ⟨w.heap.size + 1, 1, none⟩ = some (.string tx) ∧ X.cell? ⟨w.heap.size + 1, 2, none⟩ = some (.int .i64 nn) ∧ X.cell? ⟨w.heap.size + 1, 3, none⟩ = some (.int .i64 ln) ∧ X.cell? ⟨w.heap.size + 1, 4, none⟩ = some (bn) ∧ X.cell? ⟨w.heap.size + 1, 5, none⟩ = some (bk)) ∧ Below w.heap.size w X) := fun X hX => by
    have hr := (hX.block w.heap.size (by omega)).trans ((Below.heap_alloc _ _ _ (by simp)).trans (MapKept.heap_alloc w (.cells #[.int .i64 kd, .string tx, .int .i64 nn, .int .i64 ln, an, ak] 41)).1)
    have hs0 := (MapKept.heap_alloc (w.alloc (.cells #[.int .i64 kd, .string tx, .int .i64 nn, .int .i64 ln, an, ak] 41)) (.cells #[.int .i64 kd, .string tx, .int .i64 nn, .int .i64 ln, bn, bk] 41)).1
    rw [show (w.alloc (.cells #[.int .i64 kd, .string tx, .int .i64 nn, .int .i64 ln, an, ak] 41)).heap.size = w.heap.size + 1 from by simp] at hs0
    have hs := (hX.block (w.heap.size + 1) (by omega)).trans hs0
    exact ⟨⟨by rw [cell_of_row _ _ 0 _ _ (0, 0) hr]; rfl, by rw [cell_of_row _ _ 1 _ _ (0, 0) hr]; rfl, by rw [cell_of_row _ _ 2 _ _ (0, 0) hr]; rfl, by rw [cell_of_row _ _ 3 _ _ (0, 0) hr]; rfl, by rw [cell_of_row _ _ 4 _ _ (0, 0) hr]; rfl, by rw [cell_of_row _ _ 5 _ _ (0, 0) hr]; rfl, by rw [cell_of_row _ _ 0 _ _ (0, 0) hs]; rfl, by rw [cell_of_row _ _ 1 _ _ (0, 0) hs]; rfl, by rw [cell_of_row _ _ 2 _ _ (0, 0) hs]; rfl, by rw [cell_of_row _ _ 3 _ _ (0, 0) hs]; rfl, by rw [cell_of_row _ _ 4 _ _ (0, 0) hs]; rfl, by rw [cell_of_row _ _ 5 _ _ (0, 0) hs]; rfl⟩, hB1.trans (hX.mono (by omega))⟩
  have D0 : Hid (type_of% C0) := C0
  have D1 : Hid (type_of% C1) := C1
  have F0 := D0.out _ hB1
  have E0 : Hid (type_of% F0) := F0
  clear F0 D0 hB1 C0 C1
  go_enter Try.func40, Try.ntmps40
  go_wp2_with fail
  refine (E0.out).mono ?_
  rintro e w1 ⟨rfl, hb1⟩
  have G1 : Below (w.heap.size + 1 + 1) ((w.alloc (.cells #[.int .i64 kd, .string tx, .int .i64 nn, .int .i64 ln, an, ak] 41)).alloc (.cells #[.int .i64 kd, .string tx, .int .i64 nn, .int .i64 ln, bn, bk] 41)) w1 := hb1.mono (by simp)
  have z1 : w.heap.size + 1 + 1 ≤ w1.heap.size := by have := G1.size; simpa using this
  obtain ⟨⟨y1_0, y1_1, y1_2, y1_3, y1_4, y1_5, y1_6, y1_7, y1_8, y1_9, y1_10, y1_11⟩, q1⟩ := HA.out _ G1
  go_wp2_with fail
  refine (D1.out _ q1).mono ?_
  rintro e w2 ⟨rfl, hb2⟩
  have G2 := G1.trans (hb2.mono z1)
  have z2 : w.heap.size + 1 + 1 ≤ w2.heap.size := by have := G2.size; simpa using this
  clear y1_0 y1_1 y1_2 y1_3 y1_4 y1_5 y1_6 y1_7 y1_8 y1_9 y1_10 y1_11
  obtain ⟨⟨y2_0, y2_1, y2_2, y2_3, y2_4, y2_5, y2_6, y2_7, y2_8, y2_9, y2_10, y2_11⟩, q2⟩ := HA.out _ G2
  go_wp2_with fail
  go_ret
  exact ⟨rfl, q2⟩

set_option maxHeartbeats 1600000 in
set_option maxRecDepth 100000 in
theorem lawsEqXps (n : Nat) (ih : ∀ (ca cb : List Value) (t : Xp) (w : World), XpAt w n ca t → XpAt w n cb t → Xp.bulk n t ≤ 1048576 →
      Calls Try.prog 40 #[.agg ca.toArray, .agg cb.toArray] w fun e w' => e = .returned (.bool true) ∧ Below w.heap.size w w')
    (va vb : Value) (ks : List Xp) (w : World) (hA : RowG 6 w (XpAt w n) va ks) (hB : RowG 6 w (XpAt w n) vb ks) (hkl : bulkA (Xp.bulk n) ks ≤ 1048576) :
    Calls Try.prog 45 #[va, vb] w fun e w' => e = .returned (.bool true) ∧ Below w.heap.size w w' := by
  obtain ⟨a, capa, rfl, ha⟩ := hA.open fun cs t h => by rw [h.len]; decide
  obtain ⟨b, capb, rfl, hb⟩ := hB.open fun cs t h => by rw [h.len]; decide
  have HEA : Hid (type_of% ha) := ha
  have HEB : Hid (type_of% hb) := hb
  have IH : Hid (type_of% ih) := ih
  have hlen : ks.length ≤ 1048576 := by unfold bulkA at hkl; omega
  clear hA hB ha hb ih
  go_enter Try.func45, Try.ntmps45
  go_wp2_with fail
  go_loopw [5] (fun i wr => ∃ k : Nat, k ≤ ks.length ∧ i = .int .i64 k ∧ Below w.heap.size w wr) (fun i _ => ks.length - (intOf i).toNat)
  case atStart => exact ⟨0, Nat.zero_le _, rfl, Below.refl _ _⟩
  case round =>
    obtain ⟨k, hk, rfl, hbe⟩ := hrel
    by_cases hlt : k < ks.length
    · obtain ⟨ba, oa, ca, rfl, hba, hta, pa⟩ := HEA.out k hlt
      obtain ⟨bb, ob, cb, rfl, hbb, htb, pb⟩ := HEB.out k hlt
      have hbk := bulkA_one (Xp.bulk n) ks k hlt
      have HC : Hid (∀ wx : World, Below wr.heap.size wr wx → Calls Try.prog 40 #[.agg ca.toArray, .agg cb.toArray] wx fun e w' => e = .returned (.bool true) ∧ Below wx.heap.size wx w') := fun wx hx => IH.out _ _ _ wx ((hta.below hbe).below hx) ((htb.below hbe).below hx) (by omega)
      obtain ⟨x0, x1, x2, x3, x4, x5, rfl⟩ := cells6 hta.len
      obtain ⟨y0, y1, y2, y3, y4, y5, rfl⟩ := cells6 htb.len
      have A0 : wr.cell? ⟨ba, oa + k * 6, none⟩ = some x0 := (hbe.cell (p := ⟨ba, oa + k * 6 + 0, none⟩) hba).trans (pa 0 x0 rfl)
      have B0 : wr.cell? ⟨bb, ob + k * 6, none⟩ = some y0 := (hbe.cell (p := ⟨bb, ob + k * 6 + 0, none⟩) hbb).trans (pb 0 y0 rfl)
      have A1 : wr.cell? ⟨ba, oa + k * 6 + 1, none⟩ = some x1 := (hbe.cell (p := ⟨ba, oa + k * 6 + 1, none⟩) hba).trans (pa 1 x1 rfl)
      have B1 : wr.cell? ⟨bb, ob + k * 6 + 1, none⟩ = some y1 := (hbe.cell (p := ⟨bb, ob + k * 6 + 1, none⟩) hbb).trans (pb 1 y1 rfl)
      have A2 : wr.cell? ⟨ba, oa + k * 6 + 2, none⟩ = some x2 := (hbe.cell (p := ⟨ba, oa + k * 6 + 2, none⟩) hba).trans (pa 2 x2 rfl)
      have B2 : wr.cell? ⟨bb, ob + k * 6 + 2, none⟩ = some y2 := (hbe.cell (p := ⟨bb, ob + k * 6 + 2, none⟩) hbb).trans (pb 2 y2 rfl)
      have A3 : wr.cell? ⟨ba, oa + k * 6 + 3, none⟩ = some x3 := (hbe.cell (p := ⟨ba, oa + k * 6 + 3, none⟩) hba).trans (pa 3 x3 rfl)
      have B3 : wr.cell? ⟨bb, ob + k * 6 + 3, none⟩ = some y3 := (hbe.cell (p := ⟨bb, ob + k * 6 + 3, none⟩) hbb).trans (pb 3 y3 rfl)
      have A4 : wr.cell? ⟨ba, oa + k * 6 + 4, none⟩ = some x4 := (hbe.cell (p := ⟨ba, oa + k * 6 + 4, none⟩) hba).trans (pa 4 x4 rfl)
      have B4 : wr.cell? ⟨bb, ob + k * 6 + 4, none⟩ = some y4 := (hbe.cell (p := ⟨bb, ob + k * 6 + 4, none⟩) hbb).trans (pb 4 y4 rfl)
      have A5 : wr.cell? ⟨ba, oa + k * 6 + 5, none⟩ = some x5 := (hbe.cell (p := ⟨ba, oa + k * 6 + 5, none⟩) hba).trans (pa 5 x5 rfl)
      have B5 : wr.cell? ⟨bb, ob + k * 6 + 5, none⟩ = some y5 := (hbe.cell (p := ⟨bb, ob + k * 6 + 5, none⟩) hbb).trans (pb 5 y5 rfl)
      clear HEA HEB IH hta htb hbk pa pb
      have hk0 : (0 : Int) ≤ k := by omega
      have hk1 : (k : Int) < ks.length := by omega
      go_wp2_with fail
      go_region_with (go_at_call 40; refine (HC.out _ ((Below.refl _ _).drew)).mono ?_; rintro e w2 ⟨rfl, hb2⟩)
      all_goals
        go_wp2_with fail
        go_roundw
        case rel => exact ⟨k + 1, by omega, by go_num, hbe.trans ((((Below.refl _ _).drew).trans hb2).mono hbe.size)⟩
        case measure => simp [intOf]; omega
    · clear HEA HEB IH
      go_wp2_with fail
      go_ret
      exact ⟨rfl, hbe⟩

theorem lawsEqXp (n : Nat) : ∀ (ca cb : List Value) (t : Xp) (w : World), XpAt w n ca t → XpAt w n cb t → Xp.bulk n t ≤ 1048576 →
    Calls Try.prog 40 #[.agg ca.toArray, .agg cb.toArray] w fun e w' => e = .returned (.bool true) ∧ Below w.heap.size w w' := by
  induction n with
  | zero => intro ca cb t w h; exact h.elim
  | succ n ih =>
    intro ca cb t w hA hB hbk
    obtain ⟨an, ak, rfl, _, ⟨hTa, _, _⟩, _, hra⟩ := hA
    obtain ⟨bn, bk, rfl, _, ⟨hTb, _, _⟩, _, hrb⟩ := hB
    rw [Xp.bulk] at hbk
    exact eqExpC t.kind t.n t.line t.text an ak bn bk w (fun X hX => lawsEq an bn t.names X (hTa.below hX) (hTb.below hX) (by omega)) (fun X hX => lawsEqXps n ih ak bk t.kids X (hra.below hX fun _ _ _ h => h.below hX) (hrb.below hX fun _ _ _ h => h.below hX) (by unfold bulkA sumA; omega))

set_option maxHeartbeats 1600000 in
set_option maxRecDepth 100000 in
theorem eqDefC (kd ln : Int) (tx : ByteArray) (td : Bool) (ap att at0 at1 at2 at3 ax0 ax1 ax2 ax3 ax4 ax5 bp bt bt0 bt1 bt2 bt3 bx0 bx1 bx2 bx3 bx4 bx5 : Value) (w : World)
    (C0 : ∀ X : World, Below w.heap.size w X → Calls Try.prog 19 #[ap, bp] X fun e w' => e = .returned (.bool true) ∧ Below X.heap.size X w')
    (C1 : ∀ X : World, Below w.heap.size w X → Calls Try.prog 38 #[att, bt] X fun e w' => e = .returned (.bool true) ∧ Below X.heap.size X w')
    (C2 : ∀ X : World, Below w.heap.size w X → Calls Try.prog 39 #[.agg #[at0, at1, at2, at3], .agg #[bt0, bt1, bt2, bt3]] X fun e w' => e = .returned (.bool true) ∧ Below X.heap.size X w')
    (C3 : ∀ X : World, Below w.heap.size w X → Calls Try.prog 40 #[.agg #[ax0, ax1, ax2, ax3, ax4, ax5], .agg #[bx0, bx1, bx2, bx3, bx4, bx5]] X fun e w' => e = .returned (.bool true) ∧ Below X.heap.size X w') :
    Calls Try.prog 25 #[.agg #[.int .i64 kd, .string tx, .int .i64 ln, ap, att, .bool td, at0, at1, at2, at3, ax0, ax1, ax2, ax3, ax4, ax5], .agg #[.int .i64 kd, .string tx, .int .i64 ln, bp, bt, .bool td, bt0, bt1, bt2, bt3, bx0, bx1, bx2, bx3, bx4, bx5]] w fun e w' => e = .returned (.bool true) ∧ Below w.heap.size w w' := by
  have hB1 : Below w.heap.size w ((w.alloc (.cells #[.int .i64 kd, .string tx, .int .i64 ln, ap, att, .bool td, at0, at1, at2, at3, ax0, ax1, ax2, ax3, ax4, ax5] 43)).alloc (.cells #[.int .i64 kd, .string tx, .int .i64 ln, bp, bt, .bool td, bt0, bt1, bt2, bt3, bx0, bx1, bx2, bx3, bx4, bx5] 43)) := ((Below.refl _ _).alloc (Nat.le_refl _) _).alloc (by simp) _
  have HA : Hid (∀ X : World, Below (w.heap.size + 1 + 1) ((w.alloc (.cells #[.int .i64 kd, .string tx, .int .i64 ln, ap, att, .bool td, at0, at1, at2, at3, ax0, ax1, ax2, ax3, ax4, ax5] 43)).alloc (.cells #[.int .i64 kd, .string tx, .int .i64 ln, bp, bt, .bool td, bt0, bt1, bt2, bt3, bx0, bx1, bx2, bx3, bx4, bx5] 43)) X → (X.cell? ⟨w.heap.size, 0, none⟩ = some (.int .i64 kd) ∧ X.cell? ⟨w.heap.size, 1, none⟩ = some (.string tx) ∧ X.cell? ⟨w.heap.size, 2, none⟩ = some (.int .i64 ln) ∧ X.cell? ⟨w.heap.size, 3, none⟩ = some (ap) ∧ X.cell? ⟨w.heap.size, 4, none⟩ = some (att) ∧ X.cell? ⟨w.heap.size, 5, none⟩ = some (.bool td) ∧ X.cell? ⟨w.heap.size, 6, none⟩ = some (at0) ∧ X.cell? ⟨w.heap.size, 7, none⟩ = some (at1) ∧ X.cell? ⟨w.heap.size, 8, none⟩ = some (at2) ∧ X.cell? ⟨w.heap.size, 9, none⟩ = some (at3) ∧ X.cell? ⟨w.heap.size, 10, none⟩ = some (ax0) ∧ X.cell? ⟨w.heap.size, 11, none⟩ = some (ax1) ∧ X.cell? ⟨w.heap.size, 12, none⟩ = some (ax2) ∧ X.cell? ⟨w.heap.size, 13, none⟩ = some (ax3) ∧ X.cell? ⟨w.heap.size, 14, none⟩ = some (ax4) ∧ X.cell? ⟨w.heap.size, 15, none⟩ = some (ax5) ∧ X.cell? ⟨w.heap.size + 1, 0, none⟩ = some (.int .i64 kd) ∧ X.cell? ⟨w.heap.size + 1, 1, none⟩ = some (.string tx) ∧ X.cell? ⟨w.heap.size + 1, 2, none⟩ = some (.int .i64 ln) ∧ X.cell? ⟨w.heap.size + 1, 3, none⟩ = some (bp) ∧ X.cell? ⟨w.heap.size + 1, 4, none⟩ = some (bt) ∧ X.cell? ⟨w.heap.size + 1, 5, none⟩ = some (.bool td) ∧ X.cell? ⟨w.heap.size + 1, 6, none⟩ = some (bt0) ∧ X.cell? ⟨w.heap.size + 1, 7, none⟩ = some (bt1) ∧ X.cell? ⟨w.heap.size + 1, 8, none⟩ = some (bt2) ∧ X.cell? ⟨w.heap.size + 1, 9, none⟩ = some (bt3) ∧ X.cell? ⟨w.heap.size + 1, 10, none⟩ = some (bx0) ∧ X.cell? ⟨w.heap.size + 1, 11, none⟩ = some (bx1) ∧ X.cell? ⟨w.heap.size + 1, 12, none⟩ = some (bx2) ∧ X.cell? ⟨w.heap.size + 1, 13, none⟩ = some (bx3) ∧ X.cell? ⟨w.heap.size + 1, 14, none⟩ = some (bx4) ∧ X.cell? ⟨w.heap.size + 1, 15, none⟩ = some (bx5)) ∧ Below w.heap.size w X) := fun X hX => by
    have hr := (hX.block w.heap.size (by omega)).trans ((Below.heap_alloc _ _ _ (by simp)).trans (MapKept.heap_alloc w (.cells #[.int .i64 kd, .string tx, .int .i64 ln, ap, att, .bool td, at0, at1, at2, at3, ax0, ax1, ax2, ax3, ax4, ax5] 43)).1)
    have hs0 := (MapKept.heap_alloc (w.alloc (.cells #[.int .i64 kd, .string tx, .int .i64 ln, ap, att, .bool td, at0, at1, at2, at3, ax0, ax1, ax2, ax3, ax4, ax5] 43)) (.cells #[.int .i64 kd, .string tx, .int .i64 ln, bp, bt, .bool td, bt0, bt1, bt2, bt3, bx0, bx1, bx2, bx3, bx4, bx5] 43)).1
    rw [show (w.alloc (.cells #[.int .i64 kd, .string tx, .int .i64 ln, ap, att, .bool td, at0, at1, at2, at3, ax0, ax1, ax2, ax3, ax4, ax5] 43)).heap.size = w.heap.size + 1 from by simp] at hs0
    have hs := (hX.block (w.heap.size + 1) (by omega)).trans hs0
    exact ⟨⟨by rw [cell_of_row _ _ 0 _ _ (0, 0) hr]; rfl, by rw [cell_of_row _ _ 1 _ _ (0, 0) hr]; rfl, by rw [cell_of_row _ _ 2 _ _ (0, 0) hr]; rfl, by rw [cell_of_row _ _ 3 _ _ (0, 0) hr]; rfl, by rw [cell_of_row _ _ 4 _ _ (0, 0) hr]; rfl, by rw [cell_of_row _ _ 5 _ _ (0, 0) hr]; rfl, by rw [cell_of_row _ _ 6 _ _ (0, 0) hr]; rfl, by rw [cell_of_row _ _ 7 _ _ (0, 0) hr]; rfl, by rw [cell_of_row _ _ 8 _ _ (0, 0) hr]; rfl, by rw [cell_of_row _ _ 9 _ _ (0, 0) hr]; rfl, by rw [cell_of_row _ _ 10 _ _ (0, 0) hr]; rfl, by rw [cell_of_row _ _ 11 _ _ (0, 0) hr]; rfl, by rw [cell_of_row _ _ 12 _ _ (0, 0) hr]; rfl, by rw [cell_of_row _ _ 13 _ _ (0, 0) hr]; rfl, by rw [cell_of_row _ _ 14 _ _ (0, 0) hr]; rfl, by rw [cell_of_row _ _ 15 _ _ (0, 0) hr]; rfl, by rw [cell_of_row _ _ 0 _ _ (0, 0) hs]; rfl, by rw [cell_of_row _ _ 1 _ _ (0, 0) hs]; rfl, by rw [cell_of_row _ _ 2 _ _ (0, 0) hs]; rfl, by rw [cell_of_row _ _ 3 _ _ (0, 0) hs]; rfl, by rw [cell_of_row _ _ 4 _ _ (0, 0) hs]; rfl, by rw [cell_of_row _ _ 5 _ _ (0, 0) hs]; rfl, by rw [cell_of_row _ _ 6 _ _ (0, 0) hs]; rfl, by rw [cell_of_row _ _ 7 _ _ (0, 0) hs]; rfl, by rw [cell_of_row _ _ 8 _ _ (0, 0) hs]; rfl, by rw [cell_of_row _ _ 9 _ _ (0, 0) hs]; rfl, by rw [cell_of_row _ _ 10 _ _ (0, 0) hs]; rfl, by rw [cell_of_row _ _ 11 _ _ (0, 0) hs]; rfl, by rw [cell_of_row _ _ 12 _ _ (0, 0) hs]; rfl, by rw [cell_of_row _ _ 13 _ _ (0, 0) hs]; rfl, by rw [cell_of_row _ _ 14 _ _ (0, 0) hs]; rfl, by rw [cell_of_row _ _ 15 _ _ (0, 0) hs]; rfl⟩, hB1.trans (hX.mono (by omega))⟩
  have D0 : Hid (type_of% C0) := C0
  have D1 : Hid (type_of% C1) := C1
  have D2 : Hid (type_of% C2) := C2
  have D3 : Hid (type_of% C3) := C3
  have F0 := D0.out _ hB1
  have E0 : Hid (type_of% F0) := F0
  clear F0 D0 hB1 C0 C1 C2 C3
  go_enter Try.func25, Try.ntmps25
  go_wp2_with fail
  refine (E0.out).mono ?_
  rintro e w1 ⟨rfl, hb1⟩
  have G1 : Below (w.heap.size + 1 + 1) ((w.alloc (.cells #[.int .i64 kd, .string tx, .int .i64 ln, ap, att, .bool td, at0, at1, at2, at3, ax0, ax1, ax2, ax3, ax4, ax5] 43)).alloc (.cells #[.int .i64 kd, .string tx, .int .i64 ln, bp, bt, .bool td, bt0, bt1, bt2, bt3, bx0, bx1, bx2, bx3, bx4, bx5] 43)) w1 := hb1.mono (by simp)
  have z1 : w.heap.size + 1 + 1 ≤ w1.heap.size := by have := G1.size; simpa using this
  obtain ⟨⟨y1_0, y1_1, y1_2, y1_3, y1_4, y1_5, y1_6, y1_7, y1_8, y1_9, y1_10, y1_11, y1_12, y1_13, y1_14, y1_15, y1_16, y1_17, y1_18, y1_19, y1_20, y1_21, y1_22, y1_23, y1_24, y1_25, y1_26, y1_27, y1_28, y1_29, y1_30, y1_31⟩, q1⟩ := HA.out _ G1
  go_wp2_with fail
  refine (D1.out _ q1).mono ?_
  rintro e w2 ⟨rfl, hb2⟩
  have G2 := G1.trans (hb2.mono z1)
  have z2 : w.heap.size + 1 + 1 ≤ w2.heap.size := by have := G2.size; simpa using this
  clear y1_0 y1_1 y1_2 y1_3 y1_4 y1_5 y1_6 y1_7 y1_8 y1_9 y1_10 y1_11 y1_12 y1_13 y1_14 y1_15 y1_16 y1_17 y1_18 y1_19 y1_20 y1_21 y1_22 y1_23 y1_24 y1_25 y1_26 y1_27 y1_28 y1_29 y1_30 y1_31
  obtain ⟨⟨y2_0, y2_1, y2_2, y2_3, y2_4, y2_5, y2_6, y2_7, y2_8, y2_9, y2_10, y2_11, y2_12, y2_13, y2_14, y2_15, y2_16, y2_17, y2_18, y2_19, y2_20, y2_21, y2_22, y2_23, y2_24, y2_25, y2_26, y2_27, y2_28, y2_29, y2_30, y2_31⟩, q2⟩ := HA.out _ G2
  go_wp2_with fail
  refine (D2.out _ q2).mono ?_
  rintro e w3 ⟨rfl, hb3⟩
  have G3 := G2.trans (hb3.mono z2)
  have z3 : w.heap.size + 1 + 1 ≤ w3.heap.size := by have := G3.size; simpa using this
  clear y2_0 y2_1 y2_2 y2_3 y2_4 y2_5 y2_6 y2_7 y2_8 y2_9 y2_10 y2_11 y2_12 y2_13 y2_14 y2_15 y2_16 y2_17 y2_18 y2_19 y2_20 y2_21 y2_22 y2_23 y2_24 y2_25 y2_26 y2_27 y2_28 y2_29 y2_30 y2_31
  obtain ⟨⟨y3_0, y3_1, y3_2, y3_3, y3_4, y3_5, y3_6, y3_7, y3_8, y3_9, y3_10, y3_11, y3_12, y3_13, y3_14, y3_15, y3_16, y3_17, y3_18, y3_19, y3_20, y3_21, y3_22, y3_23, y3_24, y3_25, y3_26, y3_27, y3_28, y3_29, y3_30, y3_31⟩, q3⟩ := HA.out _ G3
  go_wp2_with fail
  refine (D3.out _ q3).mono ?_
  rintro e w4 ⟨rfl, hb4⟩
  have G4 := G3.trans (hb4.mono z3)
  have z4 : w.heap.size + 1 + 1 ≤ w4.heap.size := by have := G4.size; simpa using this
  clear y3_0 y3_1 y3_2 y3_3 y3_4 y3_5 y3_6 y3_7 y3_8 y3_9 y3_10 y3_11 y3_12 y3_13 y3_14 y3_15 y3_16 y3_17 y3_18 y3_19 y3_20 y3_21 y3_22 y3_23 y3_24 y3_25 y3_26 y3_27 y3_28 y3_29 y3_30 y3_31
  obtain ⟨⟨y4_0, y4_1, y4_2, y4_3, y4_4, y4_5, y4_6, y4_7, y4_8, y4_9, y4_10, y4_11, y4_12, y4_13, y4_14, y4_15, y4_16, y4_17, y4_18, y4_19, y4_20, y4_21, y4_22, y4_23, y4_24, y4_25, y4_26, y4_27, y4_28, y4_29, y4_30, y4_31⟩, q4⟩ := HA.out _ G4
  go_wp2_with fail
  go_ret
  exact ⟨rfl, q4⟩

theorem lawsEqDf (n : Nat) (ca cb : List Value) (d : Df) (w : World) (hA : DfAt w n ca d) (hB : DfAt w n cb d) (hbk : Df.bulk n d ≤ 1048576) :
    Calls Try.prog 25 #[.agg ca.toArray, .agg cb.toArray] w fun e w' => e = .returned (.bool true) ∧ Below w.heap.size w w' := by
  obtain ⟨ap, att, at0, at1, at2, at3, ax0, ax1, ax2, ax3, ax4, ax5, rfl, _, ⟨hTa, _, _⟩, ⟨_, hra⟩, hya, hxa⟩ := hA
  obtain ⟨bp, bt, bt0, bt1, bt2, bt3, bx0, bx1, bx2, bx3, bx4, bx5, rfl, _, ⟨hTb, _, _⟩, ⟨_, hrb⟩, hyb, hxb⟩ := hB
  unfold Df.bulk at hbk
  exact eqDefC d.kind d.line d.name d.typed ap att at0 at1 at2 at3 ax0 ax1 ax2 ax3 ax4 ax5 bp bt bt0 bt1 bt2 bt3 bx0 bx1 bx2 bx3 bx4 bx5 w (fun X hX => lawsEq ap bp d.params X (hTa.below hX) (hTb.below hX) (by omega)) (fun X hX => lawsEqRow n (lawsEqTy n) att bt d.types X (hra.below hX fun _ _ _ h => h.below hX) (hrb.below hX fun _ _ _ h => h.below hX) (by omega)) (fun X hX => lawsEqTy n _ _ d.ty X (hya.below hX) (hyb.below hX) (by omega)) (fun X hX => lawsEqXp n _ _ d.exp X (hxa.below hX) (hxb.below hX) (by omega))

set_option maxHeartbeats 1600000 in
set_option maxRecDepth 100000 in
theorem lawsEqDfs (n : Nat) (ih : ∀ (ca cb : List Value) (t : Df) (w : World), DfAt w n ca t → DfAt w n cb t → Df.bulk n t ≤ 1048576 →
      Calls Try.prog 25 #[.agg ca.toArray, .agg cb.toArray] w fun e w' => e = .returned (.bool true) ∧ Below w.heap.size w w')
    (va vb : Value) (ks : List Df) (w : World) (hA : RowG 16 w (DfAt w n) va ks) (hB : RowG 16 w (DfAt w n) vb ks) (hkl : bulkA (Df.bulk n) ks ≤ 1048576) :
    Calls Try.prog 20 #[va, vb] w fun e w' => e = .returned (.bool true) ∧ Below w.heap.size w w' := by
  obtain ⟨a, capa, rfl, ha⟩ := hA.open fun cs t h => by rw [h.len]; decide
  obtain ⟨b, capb, rfl, hb⟩ := hB.open fun cs t h => by rw [h.len]; decide
  have HEA : Hid (type_of% ha) := ha
  have HEB : Hid (type_of% hb) := hb
  have IH : Hid (type_of% ih) := ih
  have hlen : ks.length ≤ 1048576 := by unfold bulkA at hkl; omega
  clear hA hB ha hb ih
  go_enter Try.func20, Try.ntmps20
  go_wp2_with fail
  go_loopw [5] (fun i wr => ∃ k : Nat, k ≤ ks.length ∧ i = .int .i64 k ∧ Below w.heap.size w wr) (fun i _ => ks.length - (intOf i).toNat)
  case atStart => exact ⟨0, Nat.zero_le _, rfl, Below.refl _ _⟩
  case round =>
    obtain ⟨k, hk, rfl, hbe⟩ := hrel
    by_cases hlt : k < ks.length
    · obtain ⟨ba, oa, ca, rfl, hba, hta, pa⟩ := HEA.out k hlt
      obtain ⟨bb, ob, cb, rfl, hbb, htb, pb⟩ := HEB.out k hlt
      have hbk := bulkA_one (Df.bulk n) ks k hlt
      have HC : Hid (∀ wx : World, Below wr.heap.size wr wx → Calls Try.prog 25 #[.agg ca.toArray, .agg cb.toArray] wx fun e w' => e = .returned (.bool true) ∧ Below wx.heap.size wx w') := fun wx hx => IH.out _ _ _ wx ((hta.below hbe).below hx) ((htb.below hbe).below hx) (by omega)
      obtain ⟨x0, x1, x2, x3, x4, x5, x6, x7, x8, x9, x10, x11, x12, x13, x14, x15, rfl⟩ := cells16 hta.len
      obtain ⟨y0, y1, y2, y3, y4, y5, y6, y7, y8, y9, y10, y11, y12, y13, y14, y15, rfl⟩ := cells16 htb.len
      have A0 : wr.cell? ⟨ba, oa + k * 16, none⟩ = some x0 := (hbe.cell (p := ⟨ba, oa + k * 16 + 0, none⟩) hba).trans (pa 0 x0 rfl)
      have B0 : wr.cell? ⟨bb, ob + k * 16, none⟩ = some y0 := (hbe.cell (p := ⟨bb, ob + k * 16 + 0, none⟩) hbb).trans (pb 0 y0 rfl)
      have A1 : wr.cell? ⟨ba, oa + k * 16 + 1, none⟩ = some x1 := (hbe.cell (p := ⟨ba, oa + k * 16 + 1, none⟩) hba).trans (pa 1 x1 rfl)
      have B1 : wr.cell? ⟨bb, ob + k * 16 + 1, none⟩ = some y1 := (hbe.cell (p := ⟨bb, ob + k * 16 + 1, none⟩) hbb).trans (pb 1 y1 rfl)
      have A2 : wr.cell? ⟨ba, oa + k * 16 + 2, none⟩ = some x2 := (hbe.cell (p := ⟨ba, oa + k * 16 + 2, none⟩) hba).trans (pa 2 x2 rfl)
      have B2 : wr.cell? ⟨bb, ob + k * 16 + 2, none⟩ = some y2 := (hbe.cell (p := ⟨bb, ob + k * 16 + 2, none⟩) hbb).trans (pb 2 y2 rfl)
      have A3 : wr.cell? ⟨ba, oa + k * 16 + 3, none⟩ = some x3 := (hbe.cell (p := ⟨ba, oa + k * 16 + 3, none⟩) hba).trans (pa 3 x3 rfl)
      have B3 : wr.cell? ⟨bb, ob + k * 16 + 3, none⟩ = some y3 := (hbe.cell (p := ⟨bb, ob + k * 16 + 3, none⟩) hbb).trans (pb 3 y3 rfl)
      have A4 : wr.cell? ⟨ba, oa + k * 16 + 4, none⟩ = some x4 := (hbe.cell (p := ⟨ba, oa + k * 16 + 4, none⟩) hba).trans (pa 4 x4 rfl)
      have B4 : wr.cell? ⟨bb, ob + k * 16 + 4, none⟩ = some y4 := (hbe.cell (p := ⟨bb, ob + k * 16 + 4, none⟩) hbb).trans (pb 4 y4 rfl)
      have A5 : wr.cell? ⟨ba, oa + k * 16 + 5, none⟩ = some x5 := (hbe.cell (p := ⟨ba, oa + k * 16 + 5, none⟩) hba).trans (pa 5 x5 rfl)
      have B5 : wr.cell? ⟨bb, ob + k * 16 + 5, none⟩ = some y5 := (hbe.cell (p := ⟨bb, ob + k * 16 + 5, none⟩) hbb).trans (pb 5 y5 rfl)
      have A6 : wr.cell? ⟨ba, oa + k * 16 + 6, none⟩ = some x6 := (hbe.cell (p := ⟨ba, oa + k * 16 + 6, none⟩) hba).trans (pa 6 x6 rfl)
      have B6 : wr.cell? ⟨bb, ob + k * 16 + 6, none⟩ = some y6 := (hbe.cell (p := ⟨bb, ob + k * 16 + 6, none⟩) hbb).trans (pb 6 y6 rfl)
      have A7 : wr.cell? ⟨ba, oa + k * 16 + 7, none⟩ = some x7 := (hbe.cell (p := ⟨ba, oa + k * 16 + 7, none⟩) hba).trans (pa 7 x7 rfl)
      have B7 : wr.cell? ⟨bb, ob + k * 16 + 7, none⟩ = some y7 := (hbe.cell (p := ⟨bb, ob + k * 16 + 7, none⟩) hbb).trans (pb 7 y7 rfl)
      have A8 : wr.cell? ⟨ba, oa + k * 16 + 8, none⟩ = some x8 := (hbe.cell (p := ⟨ba, oa + k * 16 + 8, none⟩) hba).trans (pa 8 x8 rfl)
      have B8 : wr.cell? ⟨bb, ob + k * 16 + 8, none⟩ = some y8 := (hbe.cell (p := ⟨bb, ob + k * 16 + 8, none⟩) hbb).trans (pb 8 y8 rfl)
      have A9 : wr.cell? ⟨ba, oa + k * 16 + 9, none⟩ = some x9 := (hbe.cell (p := ⟨ba, oa + k * 16 + 9, none⟩) hba).trans (pa 9 x9 rfl)
      have B9 : wr.cell? ⟨bb, ob + k * 16 + 9, none⟩ = some y9 := (hbe.cell (p := ⟨bb, ob + k * 16 + 9, none⟩) hbb).trans (pb 9 y9 rfl)
      have A10 : wr.cell? ⟨ba, oa + k * 16 + 10, none⟩ = some x10 := (hbe.cell (p := ⟨ba, oa + k * 16 + 10, none⟩) hba).trans (pa 10 x10 rfl)
      have B10 : wr.cell? ⟨bb, ob + k * 16 + 10, none⟩ = some y10 := (hbe.cell (p := ⟨bb, ob + k * 16 + 10, none⟩) hbb).trans (pb 10 y10 rfl)
      have A11 : wr.cell? ⟨ba, oa + k * 16 + 11, none⟩ = some x11 := (hbe.cell (p := ⟨ba, oa + k * 16 + 11, none⟩) hba).trans (pa 11 x11 rfl)
      have B11 : wr.cell? ⟨bb, ob + k * 16 + 11, none⟩ = some y11 := (hbe.cell (p := ⟨bb, ob + k * 16 + 11, none⟩) hbb).trans (pb 11 y11 rfl)
      have A12 : wr.cell? ⟨ba, oa + k * 16 + 12, none⟩ = some x12 := (hbe.cell (p := ⟨ba, oa + k * 16 + 12, none⟩) hba).trans (pa 12 x12 rfl)
      have B12 : wr.cell? ⟨bb, ob + k * 16 + 12, none⟩ = some y12 := (hbe.cell (p := ⟨bb, ob + k * 16 + 12, none⟩) hbb).trans (pb 12 y12 rfl)
      have A13 : wr.cell? ⟨ba, oa + k * 16 + 13, none⟩ = some x13 := (hbe.cell (p := ⟨ba, oa + k * 16 + 13, none⟩) hba).trans (pa 13 x13 rfl)
      have B13 : wr.cell? ⟨bb, ob + k * 16 + 13, none⟩ = some y13 := (hbe.cell (p := ⟨bb, ob + k * 16 + 13, none⟩) hbb).trans (pb 13 y13 rfl)
      have A14 : wr.cell? ⟨ba, oa + k * 16 + 14, none⟩ = some x14 := (hbe.cell (p := ⟨ba, oa + k * 16 + 14, none⟩) hba).trans (pa 14 x14 rfl)
      have B14 : wr.cell? ⟨bb, ob + k * 16 + 14, none⟩ = some y14 := (hbe.cell (p := ⟨bb, ob + k * 16 + 14, none⟩) hbb).trans (pb 14 y14 rfl)
      have A15 : wr.cell? ⟨ba, oa + k * 16 + 15, none⟩ = some x15 := (hbe.cell (p := ⟨ba, oa + k * 16 + 15, none⟩) hba).trans (pa 15 x15 rfl)
      have B15 : wr.cell? ⟨bb, ob + k * 16 + 15, none⟩ = some y15 := (hbe.cell (p := ⟨bb, ob + k * 16 + 15, none⟩) hbb).trans (pb 15 y15 rfl)
      clear HEA HEB IH hta htb hbk pa pb
      have hk0 : (0 : Int) ≤ k := by omega
      have hk1 : (k : Int) < ks.length := by omega
      go_wp2_with fail
      go_region_with (go_at_call 25; refine (HC.out _ ((Below.refl _ _).drew)).mono ?_; rintro e w2 ⟨rfl, hb2⟩)
      all_goals
        go_wp2_with fail
        go_roundw
        case rel => exact ⟨k + 1, by omega, by go_num, hbe.trans ((((Below.refl _ _).drew).trans hb2).mono hbe.size)⟩
        case measure => simp [intOf]; omega
    · clear HEA HEB IH
      go_wp2_with fail
      go_ret
      exact ⟨rfl, hbe⟩
set_option maxHeartbeats 1600000 in
set_option maxRecDepth 100000 in
theorem eqModC (ai ad bi bd : Value) (w : World)
    (C0 : ∀ X : World, Below w.heap.size w X → Calls Try.prog 19 #[ai, bi] X fun e w' => e = .returned (.bool true) ∧ Below X.heap.size X w')
    (C1 : ∀ X : World, Below w.heap.size w X → Calls Try.prog 20 #[ad, bd] X fun e w' => e = .returned (.bool true) ∧ Below X.heap.size X w') :
    Calls Try.prog 8 #[.agg #[ai, ad], .agg #[bi, bd]] w fun e w' => e = .returned (.bool true) ∧ Below w.heap.size w w' := by
  have hB1 : Below w.heap.size w ((w.alloc (.cells #[ai, ad] 30)).alloc (.cells #[bi, bd] 30)) := ((Below.refl _ _).alloc (Nat.le_refl _) _).alloc (by simp) _
  have HA : Hid (∀ X : World, Below (w.heap.size + 1 + 1) ((w.alloc (.cells #[ai, ad] 30)).alloc (.cells #[bi, bd] 30)) X → (X.cell? ⟨w.heap.size, 0, none⟩ = some (ai) ∧ X.cell? ⟨w.heap.size, 1, none⟩ = some (ad) ∧ X.cell? ⟨w.heap.size + 1, 0, none⟩ = some (bi) ∧ X.cell? ⟨w.heap.size + 1, 1, none⟩ = some (bd)) ∧ Below w.heap.size w X) := fun X hX => by
    have hr := (hX.block w.heap.size (by omega)).trans ((Below.heap_alloc _ _ _ (by simp)).trans (MapKept.heap_alloc w (.cells #[ai, ad] 30)).1)
    have hs0 := (MapKept.heap_alloc (w.alloc (.cells #[ai, ad] 30)) (.cells #[bi, bd] 30)).1
    rw [show (w.alloc (.cells #[ai, ad] 30)).heap.size = w.heap.size + 1 from by simp] at hs0
    have hs := (hX.block (w.heap.size + 1) (by omega)).trans hs0
    exact ⟨⟨by rw [cell_of_row _ _ 0 _ _ (0, 0) hr]; rfl, by rw [cell_of_row _ _ 1 _ _ (0, 0) hr]; rfl, by rw [cell_of_row _ _ 0 _ _ (0, 0) hs]; rfl, by rw [cell_of_row _ _ 1 _ _ (0, 0) hs]; rfl⟩, hB1.trans (hX.mono (by omega))⟩
  have D0 : Hid (type_of% C0) := C0
  have D1 : Hid (type_of% C1) := C1
  have F0 := D0.out _ hB1
  have E0 : Hid (type_of% F0) := F0
  clear F0 D0 hB1 C0 C1
  go_enter Try.func8, Try.ntmps8
  go_wp2_with fail
  refine (E0.out).mono ?_
  rintro e w1 ⟨rfl, hb1⟩
  have G1 : Below (w.heap.size + 1 + 1) ((w.alloc (.cells #[ai, ad] 30)).alloc (.cells #[bi, bd] 30)) w1 := hb1.mono (by simp)
  have z1 : w.heap.size + 1 + 1 ≤ w1.heap.size := by have := G1.size; simpa using this
  obtain ⟨⟨y1_0, y1_1, y1_2, y1_3⟩, q1⟩ := HA.out _ G1
  go_wp2_with fail
  refine (D1.out _ q1).mono ?_
  rintro e w2 ⟨rfl, hb2⟩
  have G2 := G1.trans (hb2.mono z1)
  have z2 : w.heap.size + 1 + 1 ≤ w2.heap.size := by have := G2.size; simpa using this
  clear y1_0 y1_1 y1_2 y1_3
  obtain ⟨⟨y2_0, y2_1, y2_2, y2_3⟩, q2⟩ := HA.out _ G2
  go_wp2_with fail
  go_ret
  exact ⟨rfl, q2⟩

theorem lawsEqMd (n : Nat) (ai ad bi bd : Value) (im : List ByteArray) (ds : List Df) (w : World) (hA : MdAt w n ai ad im ds) (hB : MdAt w n bi bd im ds) (hbk : mdBulk n im ds ≤ 1048576) :
    Calls Try.prog 8 #[.agg #[ai, ad], .agg #[bi, bd]] w fun e w' => e = .returned (.bool true) ∧ Below w.heap.size w w' := by
  unfold mdBulk at hbk
  exact eqModC ai ad bi bd w (fun X hX => lawsEq ai bi im X (hA.im.1.below hX) (hB.im.1.below hX) (by omega)) (fun X hX => lawsEqDfs n (lawsEqDf n) ad bd ds X (hA.ds.2.below hX fun _ _ _ h => h.below hX) (hB.ds.2.below hX fun _ _ _ h => h.below hX) (by omega))

end Go.Proofs.Ytegdladpkikicaa

/-
  The walks of the laws' own helpers eqType and eqTypeS, at two values that hold the same type.
-/
import Derived.Test.YtegdladpkikicaaSzTy
import Derived.Test.YtegdladpkikicaaTextsT
import Derived.Deep.RegionWith
namespace Go.Proofs.Ytegdladpkikicaa
open Go.RowKit

theorem bcellT {W w1 : World} (hb : Below W.heap.size W w1) : (∀ b o, b < W.heap.size → w1.cell? ⟨b, o, none⟩ = W.cell? ⟨b, o, none⟩) ∧ (∀ b o, b < W.heap.size → w1.frozen? ⟨b, o, none⟩ = W.frozen? ⟨b, o, none⟩) :=
  ⟨fun b o h => hb.cell (p := ⟨b, o, none⟩) h, fun b o h => hb.frozen (p := ⟨b, o, none⟩) h⟩

theorem kid_bulk (n : Nat) (ks : List Ty) (k : Nat) (h : k < ks.length) : Ty.bulk n ks[k] ≤ (ks.map (Ty.bulk n)).sum := by
  have h1 := sum_more n ks k h
  have h2 := sum_le n ks (k + 1)
  omega

theorem rowOpen {w : World} {n : Nat} {v : Value} {ks : List Ty} (hrow : RowAt w (TyAt w n) v ks) : ∃ av capv, v = .slice av ks.length capv ∧ ∀ j (h : j < ks.length), ∃ b off x0 x1 x2 x3, av = some ⟨b, off, none⟩ ∧ b < w.heap.size ∧ TyAt w n [x0, x1, x2, x3] ks[j] ∧ w.cell? ⟨b, off + j * 4, none⟩ = some x0 ∧ w.cell? ⟨b, off + j * 4 + 1, none⟩ = some x1 ∧ w.cell? ⟨b, off + j * 4 + 2, none⟩ = some x2 ∧ w.cell? ⟨b, off + j * 4 + 3, none⟩ = some x3 := by
  rcases hrow with ⟨h, a, cap, e⟩ | ⟨b, off, cap, e, hc⟩
  · exact ⟨a, cap, by rw [h]; exact e, fun j hj => by rw [h] at hj; simp at hj⟩
  · refine ⟨_, cap, e, fun j hj => ?_⟩
    obtain ⟨cs', h1, h2⟩ := hc j hj
    have hlen := h1.len
    match cs', hlen with
    | [x0, x1, x2, x3], _ => exact ⟨b, off, x0, x1, x2, x3, rfl, World.block_lt_of_cell? w ⟨b, off + j * 4 + 0, none⟩ (h2 0 x0 rfl), h1, h2 0 x0 rfl, h2 1 x1 rfl, h2 2 x2 rfl, h2 3 x3 rfl⟩

set_option maxHeartbeats 800000 in
set_option maxRecDepth 100000 in
theorem lawsEqRow (n : Nat) (ih : ∀ (ca cb : List Value) (t : Ty) (w : World), TyAt w n ca t → TyAt w n cb t → Ty.bulk n t ≤ 1048576 →
      Calls Try.prog 39 #[.agg ca.toArray, .agg cb.toArray] w fun e w' => e = .returned (.bool true) ∧ Below w.heap.size w w')
    (va vb : Value) (ks : List Ty) (w : World) (hA : RowAt w (TyAt w n) va ks) (hB : RowAt w (TyAt w n) vb ks) (hkl : rowBulk n ks ≤ 1048576) :
    Calls Try.prog 38 #[va, vb] w fun e w' => e = .returned (.bool true) ∧ Below w.heap.size w w' := by
  obtain ⟨a, capa, rfl, ha⟩ := rowOpen hA
  obtain ⟨b, capb, rfl, hb⟩ := rowOpen hB
  have HEA : Hid (type_of% ha) := ha
  have HEB : Hid (type_of% hb) := hb
  have IH : Hid (∀ (ca cb : List Value) (t : Ty) (w : World), TyAt w n ca t → TyAt w n cb t → Ty.bulk n t ≤ 1048576 → Calls Try.prog 39 #[.agg ca.toArray, .agg cb.toArray] w fun e w' => e = .returned (.bool true) ∧ Below w.heap.size w w') := ih
  have hlen : ks.length ≤ 1048576 := by unfold rowBulk at hkl; omega
  clear hA hB ha hb ih
  go_enter Try.func38, Try.ntmps38
  go_wp2_with fail
  go_loopw [5] (fun i wr => ∃ k : Nat, k ≤ ks.length ∧ i = .int .i64 k ∧ Below w.heap.size w wr) (fun i _ => ks.length - (intOf i).toNat)
  case atStart => exact ⟨0, Nat.zero_le _, rfl, Below.refl _ _⟩
  case round =>
    obtain ⟨k, hk, rfl, hbe⟩ := hrel
    by_cases hlt : k < ks.length
    · obtain ⟨ba, oa, x0, x1, x2, x3, rfl, hba, hta, a0, a1, a2, a3⟩ := HEA.out k hlt
      obtain ⟨bb, ob, y0, y1, y2, y3, rfl, hbb, htb, b0, b1, b2, b3⟩ := HEB.out k hlt
      have A0 := (hbe.cell (p := ⟨ba, oa + k * 4, none⟩) hba).trans a0
      have A1 := (hbe.cell (p := ⟨ba, oa + k * 4 + 1, none⟩) hba).trans a1
      have A2 := (hbe.cell (p := ⟨ba, oa + k * 4 + 2, none⟩) hba).trans a2
      have A3 := (hbe.cell (p := ⟨ba, oa + k * 4 + 3, none⟩) hba).trans a3
      have B0 := (hbe.cell (p := ⟨bb, ob + k * 4, none⟩) hbb).trans b0
      have B1 := (hbe.cell (p := ⟨bb, ob + k * 4 + 1, none⟩) hbb).trans b1
      have B2 := (hbe.cell (p := ⟨bb, ob + k * 4 + 2, none⟩) hbb).trans b2
      have B3 := (hbe.cell (p := ⟨bb, ob + k * 4 + 3, none⟩) hbb).trans b3
      have hbk := kid_bulk n ks k hlt
      have HC : Hid (∀ wx : World, Below wr.heap.size wr wx → Calls Try.prog 39 #[.agg #[x0, x1, x2, x3], .agg #[y0, y1, y2, y3]] wx fun e w' => e = .returned (.bool true) ∧ Below wx.heap.size wx w') := fun wx hx => IH.out _ _ _ wx ((hta.below hbe).below hx) ((htb.below hbe).below hx) (by unfold rowBulk at hkl; omega)
      clear a0 a1 a2 a3 b0 b1 b2 b3 HEA HEB IH hta htb hbk
      have hk0 : (0 : Int) ≤ k := by omega
      have hk1 : (k : Int) < ks.length := by omega
      go_wp2_with fail
      go_region_with (go_at_call 39; refine (HC.out _ ((Below.refl _ _).drew)).mono ?_; rintro e w2 ⟨rfl, hb2⟩)
      all_goals
        go_wp2_with fail
        go_roundw
        case rel => exact ⟨k + 1, by omega, by go_num, hbe.trans ((((Below.refl _ _).drew).trans hb2).mono hbe.size)⟩
        case measure => simp [intOf]; omega
    · clear HEA HEB IH
      go_wp2_with fail
      go_ret
      exact ⟨rfl, hbe⟩

set_option maxHeartbeats 800000 in
set_option maxRecDepth 100000 in
theorem lawsEqTy (n : Nat) : ∀ (ca cb : List Value) (t : Ty) (w : World), TyAt w n ca t → TyAt w n cb t → Ty.bulk n t ≤ 1048576 →
    Calls Try.prog 39 #[.agg ca.toArray, .agg cb.toArray] w fun e w' => e = .returned (.bool true) ∧ Below w.heap.size w w' := by
  induction n with
  | zero => intro ca cb t w h; exact h.elim
  | succ n ih =>
    intro ca cb t w hA hB hbk
    obtain ⟨an, ak, rfl, _, _, ⟨hTa, _, _⟩, _, hra⟩ := hA
    obtain ⟨bn, bk, rfl, _, _, ⟨hTb, _, _⟩, _, hrb⟩ := hB
    rw [Ty.bulk, bulk_texts] at hbk
    have hB2 : Below w.heap.size w ((w.alloc (.cells #[.int .i64 t.kind, .string t.name, an, ak] 38)).alloc (.cells #[.int .i64 t.kind, .string t.name, bn, bk] 38)) := ((Below.refl _ _).alloc (Nat.le_refl _) _).alloc (by simp) _
    have HN : Hid (Calls Try.prog 19 #[an, bn] ((w.alloc (.cells #[.int .i64 t.kind, .string t.name, an, ak] 38)).alloc (.cells #[.int .i64 t.kind, .string t.name, bn, bk] 38)) fun e w' => e = .returned (.bool true) ∧ Below ((w.alloc (.cells #[.int .i64 t.kind, .string t.name, an, ak] 38)).alloc (.cells #[.int .i64 t.kind, .string t.name, bn, bk] 38)).heap.size ((w.alloc (.cells #[.int .i64 t.kind, .string t.name, an, ak] 38)).alloc (.cells #[.int .i64 t.kind, .string t.name, bn, bk] 38)) w') := lawsEq an bn t.names _ (hTa.below hB2) (hTb.below hB2) (by omega)
    have HK : Hid (∀ wx : World, Below ((w.alloc (.cells #[.int .i64 t.kind, .string t.name, an, ak] 38)).alloc (.cells #[.int .i64 t.kind, .string t.name, bn, bk] 38)).heap.size ((w.alloc (.cells #[.int .i64 t.kind, .string t.name, an, ak] 38)).alloc (.cells #[.int .i64 t.kind, .string t.name, bn, bk] 38)) wx → Calls Try.prog 38 #[ak, bk] wx fun e w' => e = .returned (.bool true) ∧ Below wx.heap.size wx w') := fun wx hx => by
      have hbx : Below w.heap.size w wx := hB2.trans (hx.mono (by simp; omega))
      exact lawsEqRow n ih ak bk t.kids wx (hra.below hbx fun cs t _ h => h.below hbx) (hrb.below hbx fun cs t _ h => h.below hbx) (by unfold rowBulk; omega)
    clear hTa hTb hra hrb ih hbk
    go_enter Try.func39, Try.ntmps39
    go_wp2_with fail
    refine HN.out.mono ?_
    rintro e w2 ⟨rfl, hb2⟩
    obtain ⟨bc, bf⟩ := bcellT hb2
    have hz : w.heap.size + 1 < w2.heap.size := by have := hb2.size; simp at this; omega
    go_wp2_with fail
    refine (HK.out _ hb2).mono ?_
    rintro e w3 ⟨rfl, hb3⟩
    go_wp2_with fail
    go_ret
    exact ⟨rfl, hB2.trans ((hb2.mono (by simp; omega)).trans (hb3.mono (by omega)))⟩

end Go.Proofs.Ytegdladpkikicaa

/-
  The walk of the law's own helper sameTexts, at two lists of the same texts.
  The walk of the laws' own helper sameType, at two types that are the same.
  The walks of the draws' cursor: l01New, l01Byte, l01Below, l01Once. What a draw gives is not told, but its bounds are; of what was there nothing but the cursor's own block turns.
  The walks of the draws l01Pick, DrawIsWord, DrawNameOk and DrawLex. What a draw gives is not told, but its size is bounded.
  Types that are drawn: rows of them while a cursor goes on; how great they are.
-/
import Derived.Test.YthomlchbgcjcfaaGreatDoorTextsD
import Derived.Test.YthomlchbgcjcfaaGreatDoorTypeH
import Derived.Test.YthomlchbgcjcfaaGreatDoorEqTy
import Derived.Test.YthomlchbgcjcfaaGreatDoorTyH
import Derived.Test.YthomlchbgcjcfaaGreatDoorStepA
import Derived.Deep.RegionWith
import Derived.Deep.CutRange
import Derived.Test.YthomlchbgcjcfaaGreatDoorRows
import Derived.WalkKit
import Derived.WalkSpells
import Derived.WalkLawsBesides
import Derived.Deep.QuietTactic
import Derived.BigQuiet
import Derived.Lib.Builder
import Derived.Test.YthomlchbgcjcfaaGreatDoorUnA
import Derived.Test.YthomlchbgcjcfaaGreatDoorKbL
namespace Go.Proofs.YthomlchbgcjcfaaGreatDoor
open Go.RowKit

set_option maxHeartbeats 400000 in
set_option maxRecDepth 100000 in
theorem lawsSame (va vb : Value) (ts : List ByteArray) (w : World) (hA : Texts w va ts) (hB : Texts w vb ts) (hl : ts.length ≤ 1048576) :
    Calls Tryz.prog 18 #[va, vb] w fun e w' => e = .returned (.bool true) ∧ Below w.heap.size w w' := by
  obtain ⟨a, cap, rfl, hc⟩ : ∃ a cap, va = .slice a ts.length cap ∧ ∀ j (h : j < ts.length), ∃ b off, a = some ⟨b, off, none⟩ ∧ w.cell? ⟨b, off + j, none⟩ = some (.string ts[j]) := by
    rcases hA with ⟨h, a, cap, e⟩ | ⟨b, off, cap, e, hc⟩
    · subst h; exact ⟨a, cap, e, fun j hj => absurd hj (by simp)⟩
    · exact ⟨_, cap, e, fun j hj => ⟨b, off, rfl, hc j hj⟩⟩
  obtain ⟨a', cap', rfl, hc'⟩ : ∃ a cap, vb = .slice a ts.length cap ∧ ∀ j (h : j < ts.length), ∃ b off, a = some ⟨b, off, none⟩ ∧ w.cell? ⟨b, off + j, none⟩ = some (.string ts[j]) := by
    rcases hB with ⟨h, a, cap, e⟩ | ⟨b, off, cap, e, hc⟩
    · subst h; exact ⟨a, cap, e, fun j hj => absurd hj (by simp)⟩
    · exact ⟨_, cap, e, fun j hj => ⟨b, off, rfl, hc j hj⟩⟩
  have HC : Hid (∀ j (h : j < ts.length), ∃ b off, a = some ⟨b, off, none⟩ ∧ w.cell? ⟨b, off + j, none⟩ = some (.string ts[j])) := hc
  have HC' : Hid (∀ j (h : j < ts.length), ∃ b off, a' = some ⟨b, off, none⟩ ∧ w.cell? ⟨b, off + j, none⟩ = some (.string ts[j])) := hc'
  clear hA hB hc hc'
  go_enter Tryz.func18, Tryz.ntmps18
  go_wp2
  go_loopw [5] (fun i wr => ∃ (k : Nat), k ≤ ts.length ∧ i = .int .i64 k ∧ Below w.heap.size w wr) (fun i _ => ts.length - (intOf i).toNat)
  case atStart => exact ⟨0, Nat.zero_le _, rfl, Below.refl _ _⟩
  case round =>
    obtain ⟨k, hk, rfl, hbe⟩ := hrel
    by_cases hlt : k < ts.length
    · obtain ⟨b, off, rfl, hc0⟩ := HC.out k hlt
      obtain ⟨b', off', rfl, hc1⟩ := HC'.out k hlt
      have hblt : b < w.heap.size := World.block_lt_of_cell? w ⟨b, off + k, none⟩ hc0
      have hblt' : b' < w.heap.size := World.block_lt_of_cell? w ⟨b', off' + k, none⟩ hc1
      have hcell := (hbe.cell (p := ⟨b, off + k, none⟩) hblt).trans hc0
      have hcell' := (hbe.cell (p := ⟨b', off' + k, none⟩) hblt').trans hc1
      generalize hp : ts[k] = p at *
      clear hp hc0 hc1 HC HC' hblt hblt'
      have hk0 : (0 : Int) ≤ k := by omega
      have hk1 : (k : Int) < ts.length := by omega
      go_wp2
      go_quiet (fail)
      go_wp2
      go_roundw
      case rel => exact ⟨k + 1, by omega, by go_num, below_drewN hbe _⟩
      case measure => simp [intOf]; omega
    · go_wp2
      go_ret
      exact ⟨rfl, hbe⟩

end Go.Proofs.YthomlchbgcjcfaaGreatDoor

namespace Go.Proofs.YthomlchbgcjcfaaGreatDoor
open Go.RowKit

set_option maxHeartbeats 3200000 in
set_option maxRecDepth 100000 in
theorem lawsSameTy (n : Nat) : ∀ (ca cb : List Value) (t : Ty) (w : World), TyAt w n ca t → TyAt w n cb t → Ty.bulk n t ≤ 1048576 →
    Calls Tryz.prog 8 #[.agg ca.toArray, .agg cb.toArray] w fun e w' => e = .returned (.bool true) ∧ Below w.heap.size w w' := by
  induction n with
  | zero => intro ca cb t w h; exact h.elim
  | succ n ih =>
    intro ca cb t w hA hB hbk
    obtain ⟨an, ak, rfl, g1, g2, ⟨hTa, g3, g4⟩, g5, hra⟩ := hA
    obtain ⟨bn, bk, rfl, g6, g7, ⟨hTb, g8, g9⟩, g10, hrb⟩ := hB
    have e9 : Ty.bulk (n + 1) t = t.name.size + (t.names.length + Ty.textsBulk t.names) + (t.kids.length + (t.kids.map (Ty.bulk n)).sum) := rfl
    have hlen : t.kids.length ≤ 1048576 := by omega
    obtain ⟨a1, c1, rfl, g11⟩ := textsOpen hTa
    obtain ⟨b1, d1, rfl, g12⟩ := textsOpen hTb
    obtain ⟨a2, c2, rfl, ha⟩ := rowOpen hra
    obtain ⟨b2, d2, rfl, hb⟩ := rowOpen hrb
    have HEA : Hid (type_of% ha) := ha
    have HEB : Hid (type_of% hb) := hb
    have hB2 : Below w.heap.size w ((w.alloc (.cells #[.int .i64 t.kind, .string t.name, .slice a1 t.names.length c1, .slice a2 t.kids.length c2] 28)).alloc (.cells #[.int .i64 t.kind, .string t.name, .slice b1 t.names.length d1, .slice b2 t.kids.length d2] 28)) := ((Below.refl _ _).alloc (Nat.le_refl _) _).alloc (by simp) _
    have hx1 : ((w.alloc (.cells #[.int .i64 t.kind, .string t.name, .slice a1 t.names.length c1, .slice a2 t.kids.length c2] 28)).alloc (.cells #[.int .i64 t.kind, .string t.name, .slice b1 t.names.length d1, .slice b2 t.kids.length d2] 28)).heap[w.heap.size]? = some (.cells #[.int .i64 t.kind, .string t.name, .slice a1 t.names.length c1, .slice a2 t.kids.length c2] 28 (0, 0)) := heap_first w _ _
    have hx2 : ((w.alloc (.cells #[.int .i64 t.kind, .string t.name, .slice a1 t.names.length c1, .slice a2 t.kids.length c2] 28)).alloc (.cells #[.int .i64 t.kind, .string t.name, .slice b1 t.names.length d1, .slice b2 t.kids.length d2] 28)).heap[w.heap.size + 1]? = some (.cells #[.int .i64 t.kind, .string t.name, .slice b1 t.names.length d1, .slice b2 t.kids.length d2] 28 (0, 0)) := heap_second w _ _
    have HN : Hid (∀ wx : World, Below w.heap.size w wx → Calls Tryz.prog 18 #[.slice a1 t.names.length c1, .slice b1 t.names.length d1] wx fun e w' => e = .returned (.bool true) ∧ Below wx.heap.size wx w') := fun wx hx => lawsSame _ _ t.names wx (hTa.below hx) (hTb.below hx) (by omega)
    have IH : Hid (∀ k (hk : k < t.kids.length) (ca cb : List Value) (wx : World), TyAt wx n ca t.kids[k] → TyAt wx n cb t.kids[k] → Calls Tryz.prog 8 #[.agg ca.toArray, .agg cb.toArray] wx fun e w' => e = .returned (.bool true) ∧ Below wx.heap.size wx w') := fun k hk ca cb wx h1 h2 => ih ca cb _ wx h1 h2 (by have := kid_bulk n t.kids k hk; omega)
    clear hTa hTb hra hrb ih hbk e9 ha hb g1 g2 g3 g4 g5 g6 g7 g8 g9 g10 g11 g12
    generalize t.kind = kd at *
    generalize t.name = nm at *
    generalize hnl : t.names.length = nl at *
    generalize t.kids = ks at *
    clear hnl
    go_enter Tryz.func8, Tryz.ntmps8
    go_upto_region 1 with fail
    generalize ((w.alloc (.cells #[.int .i64 kd, .string nm, .slice a1 nl c1, .slice a2 ks.length c2] 28)).alloc (.cells #[.int .i64 kd, .string nm, .slice b1 nl d1, .slice b2 ks.length d2] 28)) = W2 at *
    have HF : Hid (∀ wx : World, Below W2.heap.size W2 wx → wx.heap[w.heap.size]? = some (.cells #[.int .i64 kd, .string nm, .slice a1 nl c1, .slice a2 ks.length c2] 28 (0, 0)) ∧ wx.heap[w.heap.size + 1]? = some (.cells #[.int .i64 kd, .string nm, .slice b1 nl d1, .slice b2 ks.length d2] 28 (0, 0)) ∧ Below w.heap.size w wx) := fun wx hx => ⟨(hx.block _ (Array.getElem?_eq_some_iff.1 hx1).1).trans hx1, (hx.block _ (Array.getElem?_eq_some_iff.1 hx2).1).trans hx2, hB2.trans (hx.mono hB2.size)⟩
    clear hx1 hx2 hB2
    obtain ⟨x1, x2, hwx⟩ := HF.out W2 (Below.refl _ _)
    obtain ⟨⟨p0, p1, p2, p3⟩, _⟩ := block4 x1
    obtain ⟨⟨q0, q1, q2, q3⟩, _⟩ := block4 x2
    have HN2 : Hid (type_of% (HN.out W2 hwx)) := HN.out W2 hwx
    clear x1 x2 hwx HN
    go_wp2_with fail
    refine HN2.out.mono ?_
    rintro e w3 ⟨rfl, hb3⟩
    clear p0 p1 p2 p3 q0 q1 q2 q3
    obtain ⟨x1, x2, _⟩ := HF.out w3 hb3
    obtain ⟨⟨p0, p1, p2, p3⟩, _⟩ := block4 x1
    obtain ⟨⟨q0, q1, q2, q3⟩, _⟩ := block4 x2
    clear x1 x2 HN2
    go_wp2_with fail
    clear p0 p1 p2 p3 q0 q1 q2 q3
    go_loopw [5] (fun i wr => ∃ k : Nat, k ≤ ks.length ∧ i = .int .i64 k ∧ Below W2.heap.size W2 wr) (fun i _ => ks.length - (intOf i).toNat)
    case atStart => exact ⟨0, Nat.zero_le _, rfl, hb3⟩
    case round =>
      obtain ⟨k, hk, rfl, hbe⟩ := hrel
      obtain ⟨x1, x2, hbw⟩ := HF.out wr hbe
      obtain ⟨⟨p0, p1, p2, p3⟩, _⟩ := block4 x1
      obtain ⟨⟨q0, q1, q2, q3⟩, _⟩ := block4 x2
      clear x1 x2 hb3
      by_cases hlt : k < ks.length
      · obtain ⟨ba, oa, x0, x1, x2, x3, rfl, hba, hta, a0, a1, a2, a3⟩ := HEA.out k hlt
        obtain ⟨bb, ob, y0, y1, y2, y3, rfl, hbb, htb, b0, b1, b2, b3⟩ := HEB.out k hlt
        have A0 := (hbw.cell (p := ⟨ba, oa + k * 4, none⟩) hba).trans a0
        have A1 := (hbw.cell (p := ⟨ba, oa + k * 4 + 1, none⟩) hba).trans a1
        have A2 := (hbw.cell (p := ⟨ba, oa + k * 4 + 2, none⟩) hba).trans a2
        have A3 := (hbw.cell (p := ⟨ba, oa + k * 4 + 3, none⟩) hba).trans a3
        have B0 := (hbw.cell (p := ⟨bb, ob + k * 4, none⟩) hbb).trans b0
        have B1 := (hbw.cell (p := ⟨bb, ob + k * 4 + 1, none⟩) hbb).trans b1
        have B2 := (hbw.cell (p := ⟨bb, ob + k * 4 + 2, none⟩) hbb).trans b2
        have B3 := (hbw.cell (p := ⟨bb, ob + k * 4 + 3, none⟩) hbb).trans b3
        have HC : Hid (∀ wx : World, Below wr.heap.size wr wx → Calls Tryz.prog 8 #[.agg #[x0, x1, x2, x3], .agg #[y0, y1, y2, y3]] wx fun e w' => e = .returned (.bool true) ∧ Below wx.heap.size wx w') := fun wx hx => IH.out k hlt _ _ wx ((hta.below hbw).below hx) ((htb.below hbw).below hx)
        have hk0 : (0 : Int) ≤ k := by omega
        have hk1 : (k : Int) < ks.length := by omega
        clear a0 a1 a2 a3 b0 b1 b2 b3 HEA HEB IH hta htb
        go_wp2_with fail
        go_region_with (go_at_call 8; refine (HC.out _ ((Below.refl _ _).drew)).mono ?_; rintro e w2 ⟨rfl, hb2⟩)
        all_goals
          go_wp2_with fail
          go_roundw
          case rel => exact ⟨k + 1, by omega, by go_num, hbe.trans ((((Below.refl _ _).drew).trans hb2).mono hbe.size)⟩
          case measure => simp [intOf]; omega
      · have hkn : ¬ (k : Int) < (ks.length : Int) := by omega
        clear HEA HEB IH
        go_wp2_with fail
        go_ret
        exact ⟨rfl, hbw⟩

end Go.Proofs.YthomlchbgcjcfaaGreatDoor

namespace Go.Proofs.YthomlchbgcjcfaaGreatDoor
open Go.RowKit

theorem i64_and255 (n : Int) : bits .and .i64 n 255 = n % 256 := by
  have h255 : (BitVec.ofInt 64 255).toNat = 2 ^ 8 - 1 := by decide
  have key : (BitVec.ofInt 64 n &&& BitVec.ofInt 64 255).toNat = (n % ((2 ^ 64 : Nat) : Int)).toNat % 2 ^ 8 := by
    rw [BitVec.toNat_and, BitVec.toNat_ofInt, h255, Nat.and_two_pow_sub_one_eq_mod]
  show IntKind.i64.wrap ((BitVec.ofInt 64 n &&& BitVec.ofInt 64 255).toNat : Nat) = n % 256
  rw [key, IntKind.wrap_i64]
  omega
theorem i64_and30 (n : Int) : bits .and .i64 n 1073741823 = n % 1073741824 := by
  have h30 : (BitVec.ofInt 64 1073741823).toNat = 2 ^ 30 - 1 := by decide
  have key : (BitVec.ofInt 64 n &&& BitVec.ofInt 64 1073741823).toNat = (n % ((2 ^ 64 : Nat) : Int)).toNat % 2 ^ 30 := by
    rw [BitVec.toNat_and, BitVec.toNat_ofInt, h30, Nat.and_two_pow_sub_one_eq_mod]
  show IntKind.i64.wrap ((BitVec.ofInt 64 n &&& BitVec.ofInt 64 1073741823).toNat : Nat) = n % 1073741824
  rw [key, IntKind.wrap_i64]
  omega

/-- a slice of bytes of so many -/
def Code (w : World) (a : Option Addr) (len : Nat) : Prop :=
  ∀ j, j < len → ∃ b off z, a = some ⟨b, off, none⟩ ∧ 0 ≤ z ∧ z ≤ 255 ∧ w.cell? ⟨b, off + j, none⟩ = some (.int .u8 z)

/-- the block cb holds a cursor over the slice -/
def IsCur (w : World) (cb : Nat) (a : Option Addr) (len cap : Nat) : Prop :=
  ∃ i h : Int, 0 ≤ i ∧ i ≤ len ∧ w.heap[cb]? = some (.cells #[.slice a len cap, .int .i64 i, .int .i64 h] 50 (0, 0))

/-- cursor and slice, the slice among what was there ahead of block B, the cursor behind it -/
structure Cur (B : Nat) (w : World) (cb : Nat) (a : Option Addr) (len cap : Nat) : Prop where
  low : ∀ b off, a = some ⟨b, off, none⟩ → 0 < len → b < B
  code : Code w a len
  here : B ≤ cb
  cur : IsCur w cb a len cap
  size : len ≤ 1048576

theorem Code.below {B : Nat} {w w' : World} {a : Option Addr} {len : Nat} (h : Code w a len) (hl : ∀ b off, a = some ⟨b, off, none⟩ → 0 < len → b < B) (hb : Below B w w') : Code w' a len := fun j hj => by
  obtain ⟨b, off, z, ha, h0, h1, hc⟩ := h j hj
  exact ⟨b, off, z, ha, h0, h1, (hb.cell (p := ⟨b, off + j, none⟩) (hl b off ha (by omega))).trans hc⟩

/-- a cursor stays one where its block stays -/
theorem Cur.kept {B : Nat} {w w' : World} {cb : Nat} {a : Option Addr} {len cap : Nat} (h : Cur B w cb a len cap) (hb : Below B w w') (hk : w'.heap[cb]? = w.heap[cb]?) : Cur B w' cb a len cap := by
  obtain ⟨i, hh, h0, h1, hc⟩ := h.cur
  exact ⟨h.low, h.code.below h.low hb, h.here, ⟨i, hh, h0, h1, hk.trans hc⟩, h.size⟩

theorem lt_of_heap {w : World} {b : Nat} {o : Obj} (h : w.heap[b]? = some o) : b < w.heap.size := (Array.getElem?_eq_some_iff.1 h).1

theorem Cur.drewN {B : Nat} {w : World} {cb : Nat} {a : Option Addr} {len cap : Nat} (h : Cur B w cb a len cap) (n : Nat) : Cur B (w.drewN n) cb a len cap := h.kept (below_drewN (Below.refl _ _) n) rfl
theorem grown_drewN {w w' : World} {r : Option Nat} (h : w.grownBy w' r) (n : Nat) : w.grownBy (w'.drewN n) r := ⟨h.os, h.tape, h.output, h.size, h.block⟩
theorem grown_trans {a b c : World} {r : Option Nat} (h : a.grownBy b r) (k : b.grownBy c r) : a.grownBy c r :=
  ⟨k.os.trans h.os, k.tape.trans h.tape, k.output.trans h.output, Nat.le_trans h.size k.size, fun j hj hr => (k.block j (Nat.lt_of_lt_of_le hj h.size) hr).trans (h.block j hj hr)⟩
theorem grown_set (w : World) (cb off : Nat) (v : Value) : w.grownBy (w.setCell ⟨cb, off, none⟩ v) (some cb) :=
  ⟨rfl, rfl, rfl, by simp, fun k _ hne => Below.heap_setCell w _ v k (fun e => hne (by rw [e]))⟩

/-- a new sum in the cursor -/
theorem cur_sum {B : Nat} {w : World} {cb : Nat} {a : Option Addr} {len cap : Nat} (hC : Cur B w cb a len cap) (v : Int) : Cur B (w.setCell ⟨cb, 2, none⟩ (.int .i64 v)) cb a len cap := by
  obtain ⟨hlow, hcode, hhere, ⟨i, h, hi0, hi1, hblk⟩, hsize⟩ := hC
  exact ⟨hlow, hcode.below hlow ((Below.refl B w).setCell (p := ⟨cb, 2, none⟩) hhere _), hhere, ⟨i, v, hi0, hi1, by simp [World.setCell, Array.getElem?_modify, hblk]⟩, hsize⟩
/-- a new place in the cursor -/
theorem cur_place {B : Nat} {w : World} {cb : Nat} {a : Option Addr} {len cap : Nat} (hC : Cur B w cb a len cap) (v : Int) (h0 : 0 ≤ v) (h1 : v ≤ len) : Cur B (w.setCell ⟨cb, 1, none⟩ (.int .i64 v)) cb a len cap := by
  obtain ⟨hlow, hcode, hhere, ⟨i, h, hi0, hi1, hblk⟩, hsize⟩ := hC
  exact ⟨hlow, hcode.below hlow ((Below.refl B w).setCell (p := ⟨cb, 1, none⟩) hhere _), hhere, ⟨v, h, h0, h1, by simp [World.setCell, Array.getElem?_modify, hblk]⟩, hsize⟩

set_option maxHeartbeats 800000 in
set_option maxRecDepth 100000 in
theorem drawByte (B cb : Nat) (a : Option Addr) (len cap : Nat) (w : World) (hC : Cur B w cb a len cap) :
    Calls Tryz.prog 20 #[.pointer (some ⟨cb, 0, none⟩)] w fun e w' => ∃ x : Int, e = .returned (.int .i64 x) ∧ 0 ≤ x ∧ x ≤ 255 ∧ Cur B w' cb a len cap ∧ w.grownBy w' (some cb) := by
  have HC0 : Hid (Cur B w cb a len cap) := hC
  obtain ⟨hlow, hcode, hhere, ⟨i, h, hi0, hi1, hblk⟩, hsize⟩ := hC
  have c0 : w.cell? ⟨cb, 0, none⟩ = some (.slice a len cap) := by rw [Lib.cell_of_heap hblk]; rfl
  have c1 : w.cell? ⟨cb, 1, none⟩ = some (.int .i64 i) := by rw [Lib.cell_of_heap hblk]; rfl
  have c2 : w.cell? ⟨cb, 2, none⟩ = some (.int .i64 h) := by rw [Lib.cell_of_heap hblk]; rfl
  have f1 : w.frozen? ⟨cb, 1, none⟩ = false := Lib.frozen_of_heap hblk 1
  have f2 : w.frozen? ⟨cb, 2, none⟩ = false := Lib.frozen_of_heap hblk 2
  have hand := i64_and255
  have HL : Hid (∀ b off, a = some ⟨b, off, none⟩ → 0 < len → b < B) := hlow
  have HC : Hid (Code w a len) := hcode
  clear hblk hlow hcode
  by_cases hlt : i < len
  · obtain ⟨b, off, z, rfl, hz0, hz1, hz⟩ := HC.out i.toNat (by omega)
    have hbne : ¬ b = cb := by have := HL.out b off rfl (by omega); omega
    go_enter Tryz.func20, Tryz.ntmps20
    go_wp2
    go_quiet (fail)
    go_wp2
    go_quiet (fail)
    go_wp2
    go_quiet (fail)
    go_wp2
    go_ret
    exact ⟨_, rfl, by omega, by omega, cur_place ((cur_sum HC0.out _).drewN _) _ (by omega) (by omega), grown_trans (grown_drewN (grown_set _ _ _ _) _) (grown_set _ _ _ _)⟩
  · go_enter Tryz.func20, Tryz.ntmps20
    go_wp2
    go_quiet (fail)
    go_wp2
    go_quiet (fail)
    go_wp2
    go_ret
    exact ⟨_, rfl, by omega, by omega, ((cur_sum HC0.out _).drewN _).drewN _, grown_drewN (grown_drewN (grown_set _ _ _ _) _) _⟩

set_option maxHeartbeats 400000 in
theorem drawBelow (B cb : Nat) (a : Option Addr) (len cap : Nat) (w : World) (n : Int) (hC : Cur B w cb a len cap) (hn : n ≤ 1000000000) :
    Calls Tryz.prog 11 #[.pointer (some ⟨cb, 0, none⟩), .int .i64 n] w fun e w' => ∃ x : Int, e = .returned (.int .i64 x) ∧ 0 ≤ x ∧ (1 ≤ n → x < n) ∧ (n ≤ 0 → x = 0) ∧ Cur B w' cb a len cap ∧ w.grownBy w' (some cb) := by
  have HC : Hid (Cur B w cb a len cap) := hC
  clear hC
  by_cases h0 : n ≤ 0
  · go_enter Tryz.func11, Tryz.ntmps11
    go_wp2
    go_ret
    exact ⟨_, rfl, by omega, by omega, fun _ => rfl, HC.out, World.grownBy.refl _ _⟩
  · by_cases h1 : n ≤ 256
    · go_enter Tryz.func11, Tryz.ntmps11
      go_wp2_with fail
      refine (drawByte B cb a len cap _ HC.out).mono ?_
      rintro e w1 ⟨x, rfl, hx0, hx1, hC1, hg1⟩
      have HC1 : Hid (Cur B w1 cb a len cap ∧ w.grownBy w1 (some cb)) := ⟨hC1, hg1⟩
      clear hC1 hg1 HC
      have hm0 : 0 ≤ x % n := Int.emod_nonneg _ (by omega)
      have hm1 : x % n < n := Int.emod_lt_of_pos _ (by omega)
      have hnz : ¬ n = 0 := by omega
      go_wp2
      go_ret
      exact ⟨_, rfl, hm0, fun _ => hm1, by omega, HC1.out.1, HC1.out.2⟩
    · go_enter Tryz.func11, Tryz.ntmps11
      go_wp2_with fail
      refine (drawByte B cb a len cap _ HC.out).mono ?_
      rintro e w1 ⟨x, rfl, hx0, hx1, hC1, hg1⟩
      have HC1 : Hid (Cur B w1 cb a len cap ∧ w.grownBy w1 (some cb)) := ⟨hC1, hg1⟩
      clear hC1 hg1 HC
      go_wp2_with fail
      refine (drawByte B cb a len cap _ HC1.out.1).mono ?_
      rintro e w2 ⟨y, rfl, hy0, hy1, hC2, hg2⟩
      have HC2 : Hid (Cur B w2 cb a len cap ∧ w.grownBy w2 (some cb)) := ⟨hC2, grown_trans HC1.out.2 hg2⟩
      clear hC2 hg2 HC1
      go_wp2_with fail
      refine (drawByte B cb a len cap _ HC2.out.1).mono ?_
      rintro e w3 ⟨z, rfl, hz0, hz1, hC3, hg3⟩
      have HC3 : Hid (Cur B w3 cb a len cap ∧ w.grownBy w3 (some cb)) := ⟨hC3, grown_trans HC2.out.2 hg3⟩
      clear hC3 hg3 HC2
      go_wp2_with fail
      refine (drawByte B cb a len cap _ HC3.out.1).mono ?_
      rintro e w4 ⟨v, rfl, hv0, hv1, hC4, hg4⟩
      have HC4 : Hid (Cur B w4 cb a len cap ∧ w.grownBy w4 (some cb)) := ⟨hC4, grown_trans HC3.out.2 hg4⟩
      clear hC4 hg4 HC3
      have hm0 : 0 ≤ (x * 16777216 + y * 65536 + z * 256 + v) % n := Int.emod_nonneg _ (by omega)
      have hm1 : (x * 16777216 + y * 65536 + z * 256 + v) % n < n := Int.emod_lt_of_pos _ (by omega)
      have hnz : ¬ n = 0 := by omega
      go_wp2
      go_ret
      exact ⟨_, rfl, hm0, fun _ => hm1, by omega, HC4.out.1, HC4.out.2⟩

set_option maxHeartbeats 400000 in
theorem drawOnce (B cb : Nat) (a : Option Addr) (len cap : Nat) (w : World) (n : Int) (hC : Cur B w cb a len cap) (hn : n ≤ 1000000000) :
    Calls Tryz.prog 21 #[.pointer (some ⟨cb, 0, none⟩), .int .i64 n] w fun e w' => ∃ x : Bool, e = .returned (.bool x) ∧ Cur B w' cb a len cap ∧ w.grownBy w' (some cb) := by
  have HC : Hid (Cur B w cb a len cap) := hC
  clear hC
  go_enter Tryz.func21, Tryz.ntmps21
  go_wp2_with fail
  refine (drawBelow B cb a len cap _ n HC.out hn).mono ?_
  rintro e w1 ⟨x, rfl, _, _, _, hC1, hg1⟩
  have HC1 : Hid (Cur B w1 cb a len cap ∧ w.grownBy w1 (some cb)) := ⟨hC1, hg1⟩
  clear hC1 hg1 HC
  go_wp2
  go_ret
  exact ⟨_, rfl, HC1.out.1, HC1.out.2⟩

set_option maxHeartbeats 400000 in
set_option maxRecDepth 100000 in
theorem drawNew (a : Option Addr) (len cap : Nat) (w : World) (hlow : ∀ b off, a = some ⟨b, off, none⟩ → 0 < len → b < w.heap.size) (hcode : Code w a len) (hsize : len ≤ 1048576) :
    Calls Tryz.prog 10 #[.slice a len cap] w fun e w' => e = .returned (.pointer (some ⟨w.heap.size, 0, none⟩)) ∧ Cur w.heap.size w' w.heap.size a len cap ∧ Below w.heap.size w w' := by
  have HL : Hid (∀ b off, a = some ⟨b, off, none⟩ → 0 < len → b < w.heap.size) := hlow
  have HC : Hid (Code w a len) := hcode
  clear hlow hcode
  have hand := i64_and30
  go_enter Tryz.func10, Tryz.ntmps10
  go_wp2
  go_loop [3, 4] (fun h i => ∃ (x : Int) (k : Nat), 0 ≤ x ∧ x ≤ 1073741824 ∧ k ≤ len ∧ h = .int .i64 x ∧ i = .int .i64 k) (fun _ i => len - (intOf i).toNat)
  case atStart => exact ⟨_, 0, by omega, by omega, by omega, rfl, rfl⟩
  case round =>
    obtain ⟨x, k, hx0, hx1, hk, rfl, rfl⟩ := hrel
    by_cases hlt : k < len ∧ k < 4000
    · obtain ⟨hl1, hl2⟩ := hlt
      obtain ⟨b, off, z, rfl, hz0, hz1, hz⟩ := HC.out k hl1
      have hm0 : 0 ≤ (x * 131 + z + 7) % 1073741824 := Int.emod_nonneg _ (by omega)
      have hm1 : (x * 131 + z + 7) % 1073741824 < 1073741824 := Int.emod_lt_of_pos _ (by omega)
      go_wp2
      go_round
      case rel => exact ⟨_, k + 1, hm0, by omega, by omega, rfl, by go_num⟩
      case measure => simp [intOf]; omega
    · by_cases hl1 : k < len
      · have hl2 : ¬ (k : Int) < 4000 := by omega
        clear hlt
        go_wp2
        go_ret
        refine ⟨rfl, ⟨HL.out, HC.out.below HL.out ((Below.refl _ _).alloc (Nat.le_refl _) _), Nat.le_refl _, ⟨0, x, by omega, by omega, heap_alloc_new w _⟩, hsize⟩, (Below.refl _ _).alloc (Nat.le_refl _) _⟩
      · clear hlt
        go_wp2
        go_ret
        refine ⟨rfl, ⟨HL.out, HC.out.below HL.out ((Below.refl _ _).alloc (Nat.le_refl _) _), Nat.le_refl _, ⟨0, x, by omega, by omega, heap_alloc_new w _⟩, hsize⟩, (Below.refl _ _).alloc (Nat.le_refl _) _⟩

end Go.Proofs.YthomlchbgcjcfaaGreatDoor

namespace Go.Proofs.YthomlchbgcjcfaaGreatDoor
open Go.RowKit

/-- what is known of the bytes that a draw goes by -/
structure CodeL (w : World) (a : Option Addr) (len : Nat) : Prop where
  low : ∀ b off, a = some ⟨b, off, none⟩ → 0 < len → b < w.heap.size
  code : Code w a len
  size : len ≤ 1048576
theorem CodeL.below {w w' : World} {a : Option Addr} {len : Nat} (h : CodeL w a len) (hb : Below w.heap.size w w') : CodeL w' a len :=
  ⟨fun b off e hp => Nat.lt_of_lt_of_le (h.low b off e hp) hb.size, h.code.below h.low hb, h.size⟩

theorem Cur.ltC {B : Nat} {w : World} {cb : Nat} {a : Option Addr} {len cap : Nat} (h : Cur B w cb a len cap) : cb < w.heap.size := by
  obtain ⟨i, hh, _, _, hc⟩ := h.cur
  exact lt_of_heap hc
theorem Cur.allocC {B : Nat} {w : World} {cb : Nat} {a : Option Addr} {len cap : Nat} (h : Cur B w cb a len cap) (o : Obj) : Cur B (w.alloc o) cb a len cap :=
  h.kept ((Below.refl _ _).alloc (by have := h.ltC; have := h.here; omega) o) (Below.heap_alloc w o cb h.ltC)
theorem Cur.belowC {B : Nat} {w w' : World} {cb : Nat} {a : Option Addr} {len cap : Nat} (h : Cur B w cb a len cap) (hg : w.grownBy w' (some cb)) : Below B w w' :=
  (Below.refl B w).grown hg (by have := h.ltC; have := h.here; omega) (fun k hk => by cases hk; exact h.here)

set_option maxHeartbeats 400000 in
theorem drawPickS (B cb lb : Nat) (a : Option Addr) (len cap : Nat) (w : World) (ts : List ByteArray) (hC : Cur B w cb a len cap) (hne : lb ≠ cb) (h0 : 1 ≤ ts.length) (h1 : ts.length ≤ 256)
    (hcell : ∀ j (h : j < ts.length), w.cell? ⟨lb, j, none⟩ = some (.string ts[j])) :
    Calls Tryz.prog 40 #[.pointer (some ⟨cb, 0, none⟩), .slice (some ⟨lb, 0, none⟩) ts.length ts.length] w fun e w' => ∃ t : ByteArray, e = .returned (.string t) ∧ t ∈ ts ∧ Cur B w' cb a len cap ∧ w.grownBy w' (some cb) := by
  have HC : Hid (Cur B w cb a len cap) := hC
  have HZ : Hid (∀ j (h : j < ts.length), w.cell? ⟨lb, j, none⟩ = some (.string ts[j])) := hcell
  clear hC hcell
  go_enter Tryz.func40, Tryz.ntmps40
  go_wp2_with fail
  refine (drawBelow B cb a len cap _ _ HC.out (by omega)).mono ?_
  rintro e w1 ⟨x, rfl, hx0, hx1, _, hC1, hg1⟩
  have hx2 := hx1 (by omega)
  obtain ⟨k, rfl⟩ := Int.eq_ofNat_of_zero_le hx0
  have hk : k < ts.length := by omega
  have hc1 : w1.cell? ⟨lb, k, none⟩ = some (.string ts[k]) := hg1.cell (HZ.out k hk) (fun h => hne (Option.some.inj h))
  have HC1 : Hid (Cur B w1 cb a len cap ∧ w.grownBy w1 (some cb)) := ⟨hC1, hg1⟩
  have HM : Hid (ts[k] ∈ ts) := List.getElem_mem hk
  generalize ts[k] = z at *
  clear hC1 hg1 HC HZ hx1
  go_wp2
  go_ret
  exact ⟨z, rfl, HM.out, HC1.out.1, HC1.out.2⟩

theorem str_cells (w : World) (ts : List ByteArray) (T : Nat) : ∀ j (h : j < ts.length), (w.alloc (.cells (strV ts).toArray T)).cell? ⟨w.heap.size, j, none⟩ = some (.string ts[j]) := fun j h => by
  have hj : j < (strV ts).toArray.size := by simp [strV, h]
  simp [strV, h]

/-- a pick out of a literal of texts: it is laid, and picked from -/
theorem pickLit (B cb : Nat) (a : Option Addr) (len cap : Nat) (w : World) (ts : List ByteArray) (hC : Cur B w cb a len cap) (h0 : 1 ≤ ts.length) (h1 : ts.length ≤ 256) (m : Nat) (hm : ∀ t ∈ ts, t.size ≤ m) :
    Calls Tryz.prog 40 #[.pointer (some ⟨cb, 0, none⟩), .slice (some ⟨w.heap.size, 0, none⟩) ts.length ts.length] (w.alloc (.cells (strV ts).toArray 9)) fun e w' => ∃ t : ByteArray, e = .returned (.string t) ∧ t.size ≤ m ∧ Cur B w' cb a len cap ∧ Below B w w' := by
  have hlt := hC.ltC
  refine (drawPickS B cb w.heap.size a len cap _ ts (hC.allocC _) (by omega) h0 h1 (str_cells w ts _)).mono ?_
  rintro e w' ⟨t, he, ht, hC', hg⟩
  exact ⟨t, he, hm t ht, hC', ((Below.refl B w).alloc (by have := hC.here; omega) _).trans ((hC.allocC _).belowC hg)⟩

def drawWordsL : List ByteArray := [⟨#[105, 109, 112, 111, 114, 116]⟩, ⟨#[116, 121, 112, 101]⟩, ⟨#[108, 101, 116]⟩, ⟨#[102, 110]⟩, ⟨#[105, 102]⟩, ⟨#[116, 104, 101, 110]⟩, ⟨#[101, 108, 115, 101]⟩, ⟨#[105, 110]⟩, ⟨#[116, 114, 117, 101]⟩, ⟨#[102, 97, 108, 115, 101]⟩, ⟨#[105, 110, 116]⟩, ⟨#[116, 101, 120, 116]⟩, ⟨#[98, 111, 111, 108]⟩, ⟨#[97, 110, 121]⟩, ⟨#[120]⟩, ⟨#[]⟩, ⟨#[73, 110, 116]⟩]
def drawNamesL : List ByteArray := [⟨#[97]⟩, ⟨#[98, 49]⟩, ⟨#[49, 97]⟩, ⟨#[]⟩, ⟨#[108, 101, 116]⟩, ⟨#[97, 98, 99, 100, 101, 102, 103, 104, 105, 106, 107, 108]⟩, ⟨#[97, 98, 99, 100, 101, 102, 103, 104, 105, 106, 107, 108, 109]⟩, ⟨#[65]⟩, ⟨#[97, 95, 98]⟩]
def drawBitsL : List ByteArray := [⟨#[120]⟩, ⟨#[108, 101, 116]⟩, ⟨#[105, 110, 116]⟩, ⟨#[49, 50]⟩, ⟨#[34, 97, 32, 98, 34]⟩, ⟨#[45, 62]⟩, ⟨#[61, 61]⟩, ⟨#[61]⟩, ⟨#[58]⟩, ⟨#[124]⟩, ⟨#[123]⟩, ⟨#[125]⟩, ⟨#[40]⟩, ⟨#[41]⟩, ⟨#[46]⟩, ⟨#[44]⟩, ⟨#[43]⟩, ⟨#[35, 32, 99, 10]⟩, ⟨#[10]⟩, ⟨#[32]⟩, ⟨#[97, 98, 99, 100, 101, 102, 103, 104, 105, 106, 107, 108]⟩]
def drawBadL : List ByteArray := [⟨#[33]⟩, ⟨#[45]⟩, ⟨#[34, 97]⟩, ⟨#[34, 92, 34]⟩, ⟨#[49, 50, 51, 52, 53, 54, 55, 56, 57, 48]⟩, ⟨#[97, 98, 99, 100, 101, 102, 103, 104, 105, 106, 107, 108, 109]⟩, ⟨#[9]⟩, ⟨#[34, 97, 10, 98, 34]⟩]
theorem sizeB (l : List ByteArray) (m : Nat) (h : (l.all fun t => decide (t.size ≤ m)) = true) : ∀ t ∈ l, t.size ≤ m := fun t ht => of_decide_eq_true (List.all_eq_true.1 h t ht)

end Go.Proofs.YthomlchbgcjcfaaGreatDoor

namespace Go.Proofs.YthomlchbgcjcfaaGreatDoor
open Go.RowKit

theorem Cur.farT {B : Nat} {w w' : World} {cb : Nat} {a : Option Addr} {len cap : Nat} (h : Cur B w cb a len cap) (hb : Below w.heap.size w w') : Cur B w' cb a len cap :=
  h.kept (hb.mono (by have := h.ltC; have := h.here; omega)) (hb.block cb h.ltC)
theorem grown_of_belowT {w w' : World} (h : Below w.heap.size w w') (r : Option Nat) : w.grownBy w' r := ⟨h.os, h.tape, h.output, h.size, fun k hk _ => h.block k hk⟩
theorem LayAt.grownC {w w' : World} {n cb : Nat} {l : Lay} {t : Ty} (h : LayAt w n l t) (hg : w.grownBy w' (some cb)) (hne : ∀ b ∈ Lay.blocks n l, b ≠ cb) : LayAt w' n l t :=
  h.same fun b hb => hg.block b (h.lt hb) fun e => hne b hb (Option.some.inj e)

theorem _root_.Go.World.grownBy.thenT {w w1 w2 : World} {r : Option Nat} (h : w.grownBy w1 r) (hb : Below w.heap.size w1 w2) : w.grownBy w2 r := ⟨hb.os.trans h.os, hb.tape.trans h.tape, hb.output.trans h.output, Nat.le_trans h.size hb.size, fun k hk hr => (hb.block k hk).trans (h.block k hk hr)⟩
theorem Cur.thenT {B : Nat} {w w1 w2 : World} {cb : Nat} {a : Option Addr} {len cap : Nat} (h : Cur B w1 cb a len cap) (hb : Below w.heap.size w1 w2) (hcb : cb < w.heap.size) (hB : B ≤ w.heap.size) : Cur B w2 cb a len cap := h.kept (hb.mono hB) (hb.block cb hcb)
/-- an append to a row that lies behind a world leaves that world alone -/
theorem grown_off {B0 BB : Nat} {w3 w5 : World} {o : Obj} {e z n : Nat} {v : Value} {xs : List Value} (hg : (w3.alloc o).grownBy w5 v.ownBlock) (ho : w3.ownsRow BB e z v n xs) (hle : B0 ≤ w3.heap.size) (hB : B0 ≤ BB) : Below B0 w3 w5 :=
  ((Below.refl B0 w3).alloc hle o).grown hg (Nat.le_trans hle (by simp)) (fun j hj => by have := (ho.lt j hj).1; omega)
/-- numbers of a literal lie in its new block -/
theorem cells_litI (w : World) (zs : List Int) (T : Nat) : ∀ j (h : j < zs.length), (w.alloc (.cells (zs.map (Value.int .i64)).toArray T)).cell? ⟨w.heap.size, j, none⟩ = some (.int .i64 zs[j]) := fun j h => by
  rw [Lib.cell_of_heap (heap_alloc_new w _) j]
  simp [h]
set_option maxHeartbeats 400000 in
theorem drawPickI (B cb lb : Nat) (a : Option Addr) (len cap : Nat) (w : World) (zs : List Int) (hC : Cur B w cb a len cap) (hne : lb ≠ cb) (h0 : 1 ≤ zs.length) (h1 : zs.length ≤ 256)
    (hcell : ∀ j (h : j < zs.length), w.cell? ⟨lb, j, none⟩ = some (.int .i64 zs[j])) :
    Calls Tryz.prog 41 #[.pointer (some ⟨cb, 0, none⟩), .slice (some ⟨lb, 0, none⟩) zs.length zs.length] w fun e w' => ∃ z : Int, e = .returned (.int .i64 z) ∧ z ∈ zs ∧ Cur B w' cb a len cap ∧ w.grownBy w' (some cb) := by
  have HC : Hid (Cur B w cb a len cap) := hC
  have HZ : Hid (∀ j (h : j < zs.length), w.cell? ⟨lb, j, none⟩ = some (.int .i64 zs[j])) := hcell
  clear hC hcell
  go_enter Tryz.func41, Tryz.ntmps41
  go_wp2_with fail
  refine (drawBelow B cb a len cap _ _ HC.out (by omega)).mono ?_
  rintro e w1 ⟨x, rfl, hx0, hx1, _, hC1, hg1⟩
  have hx2 := hx1 (by omega)
  obtain ⟨k, rfl⟩ := Int.eq_ofNat_of_zero_le hx0
  have hk : k < zs.length := by omega
  have hc1 : w1.cell? ⟨lb, k, none⟩ = some (.int .i64 zs[k]) := hg1.cell (HZ.out k hk) (fun h => hne (Option.some.inj h))
  have HC1 : Hid (Cur B w1 cb a len cap ∧ w.grownBy w1 (some cb)) := ⟨hC1, hg1⟩
  have HM : Hid (zs[k] ∈ zs) := List.getElem_mem hk
  generalize zs[k] = z at *
  clear hC1 hg1 HC HZ hx1
  go_wp2
  go_ret
  exact ⟨z, rfl, HM.out, HC1.out.1, HC1.out.2⟩

/-- types in a row of their own; none of theirs is in that row -/
structure KidsG (w : World) (B n : Nat) (v : Value) (S : List Ty) (ls : List Lay) : Prop where
  len : ls.length = S.length
  own : w.ownsRow B 28 4 v S.length (flatK S ls)
  lay : ∀ j (h1 : j < ls.length) (h2 : j < S.length), LayAt w n ls[j] S[j]
  new : ∀ l ∈ ls, ∀ b ∈ Lay.blocks n l, B ≤ b ∧ v.ownBlock ≠ some b
theorem KidsG.below {w w' : World} {B n : Nat} {v : Value} {S : List Ty} {ls : List Lay} (h : KidsG w B n v S ls) (hb : Below w.heap.size w w') : KidsG w' B n v S ls :=
  ⟨h.len, kept_belowT h.own hb, fun j h1 h2 => (h.lay j h1 h2).below hb, h.new⟩
theorem KidsG.grownC {w w' : World} {B n cb : Nat} {v : Value} {S : List Ty} {ls : List Lay} (h : KidsG w B n v S ls) (hg : w.grownBy w' (some cb)) (hcb : cb < B) : KidsG w' B n v S ls :=
  ⟨h.len, h.own.kept hg (.inr fun e => by have := (h.own.lt cb e).1; omega), fun j h1 h2 => (h.lay j h1 h2).grownC hg fun b hb => by have := (h.new _ (List.getElem_mem h1) b hb).1; omega, h.new⟩
theorem KidsG.nil {w : World} {B n g : Nat} (h : w.heap[g]? = some (.cells #[] 28 (0, 0))) (hB : B ≤ g) : KidsG w B n (.slice (some ⟨g, 0, none⟩) 0 0) [] [] :=
  ⟨rfl, own_empty4 h hB, fun j h1 _ => absurd h1 (by simp), fun l hl => absurd hl (by simp)⟩
theorem KidsG.void (w : World) (B n : Nat) : KidsG w B n (.slice none 0 0) [] [] :=
  ⟨rfl, World.ownsRow_nil _ _ _ _, fun j h1 _ => absurd h1 (by simp), fun l hl => absurd hl (by simp)⟩
/-- one more -/
theorem KidsG.snoc {w2 w4 : World} {B n gg cap : Nat} {v : Value} {S : List Ty} {ls : List Lay} {t : Ty} {l : Lay} {o : Obj} (h : KidsG w2 B n v S ls) (hl : LayAt w2 n l t) (hlb : ∀ b ∈ Lay.blocks n l, B ≤ b ∧ v.ownBlock ≠ some b)
    (hg : (w2.alloc o).grownBy w4 v.ownBlock) (hown : w4.ownsRow B 28 4 (.slice (some ⟨gg, 0, none⟩) (S.length + 1) cap) (S.length + 1) (flatK S ls ++ cellsK t l)) (hat : v.ownBlock = some gg ∨ gg = w2.heap.size + 1) : KidsG w4 B n (.slice (some ⟨gg, 0, none⟩) (S ++ [t]).length cap) (S ++ [t]) (ls ++ [l]) := by
  have keep : ∀ b, b < w2.heap.size → v.ownBlock ≠ some b → w4.heap[b]? = w2.heap[b]? := fun b hb hne => (hg.block b (by simp; omega) fun e => hne e.symm).trans ((MapKept.heap_alloc w2 o).2 b (by omega))
  have nov : ∀ b, b < w2.heap.size → v.ownBlock ≠ some b → gg ≠ b := fun b hb hne e => by
    subst e
    rcases hat with q | q
    · exact hne q
    · omega
  refine ⟨by simp [h.len], ?_, ?_, ?_⟩
  · rw [flatK_app h.len, List.length_append]
    show World.ownsRow _ B 28 4 _ (S.length + 1) (flatK S ls ++ (cellsK t l ++ []))
    rw [List.append_nil]
    exact hown
  · intro j h1 h2
    by_cases c : j < S.length
    · have hj := h.lay j (by rw [h.len]; exact c) c
      rw [List.getElem_append_left c, List.getElem_append_left (by rw [h.len]; exact c)]
      exact hj.same fun b hb => keep b (hj.lt hb) (h.new _ (List.getElem_mem (by rw [h.len]; exact c)) b hb).2
    · have e : j = S.length := by simp at h2; omega
      subst e
      rw [List.getElem_append_right (Nat.le_refl _), List.getElem_append_right (by rw [h.len]; exact Nat.le_refl _)]
      simp only [Nat.sub_self, List.getElem_cons_zero, h.len]
      exact hl.same fun b hb => keep b (hl.lt hb) (hlb b hb).2
  · intro l' hl' b hb
    rcases List.mem_append.1 hl' with q | q
    · obtain ⟨j, hj, rfl⟩ := List.getElem_of_mem q
      have hn := h.new _ q b hb
      exact ⟨hn.1, fun e => nov b ((h.lay j hj (by rw [← h.len]; exact hj)).lt hb) hn.2 (by simpa [Value.ownBlock] using e)⟩
    · rw [List.mem_singleton] at q
      subst q
      exact ⟨(hlb b hb).1, fun e => nov b (hl.lt hb) (hlb b hb).2 (by simpa [Value.ownBlock] using e)⟩
/-- a cell of another block is put -/
theorem KidsG.off {w : World} {B n T c : Nat} {v x : Value} {S : List Ty} {ls : List Lay} (h : KidsG w B n v S ls) (hT : T < B) : KidsG (w.setCell ⟨T, c, none⟩ x) B n v S ls :=
  ⟨h.len, ownsRow_setCell_other h.own (fun e => by have := (h.own.lt _ e).1; simp at this; omega) _, fun j h1 h2 => (h.lay j h1 h2).same fun b hb => Below.heap_setCell _ _ _ _ (by have := (h.new _ (List.getElem_mem h1) b hb).1; simp; omega), h.new⟩
/-- the type that has these for kids -/
theorem KidsG.lies {w : World} {B n : Nat} {v : Value} {S : List Ty} {ls : List Lay} (h : KidsG w B n v S ls) (kd : Int) (nm : ByteArray) : LayAt w (n + 1) (.mk (.slice none 0 0) v ls) (.mk kd nm [] S) ∧ ∀ b ∈ Lay.blocks (n + 1) (.mk (.slice none 0 0) v ls), B ≤ b := by
  refine ⟨⟨.inl ⟨rfl, rfl, _, _, rfl⟩, h.len, OwnS.of h.own, h.lay⟩, fun b hb => ?_⟩
  rcases List.mem_append.1 hb with hb | hb
  · simp [blk] at hb
  · rcases List.mem_append.1 hb with hb | hb
    · exact blk_base h.own b hb
    · obtain ⟨l', hl', hb⟩ := List.mem_flatMap.1 hb
      exact (h.new l' hl' b hb).1
theorem kids_sized {n : Nat} {S : List Ty} (hs : ∀ s ∈ S, Ty.sized n s) (hl : S.length ≤ 1000) (kd : Int) (hk : 0 ≤ kd ∧ kd ≤ 100) : Ty.sized (n + 1) (.mk kd ⟨#[]⟩ [] S) :=
  ⟨⟨by show (-9223372036854775808 : Int) ≤ kd; omega, by show kd ≤ 9223372036854775807; omega⟩, by show (0 : Nat) ≤ _; omega, ⟨by show (0 : Nat) ≤ _; omega, fun x hx => by simp at hx⟩, by show S.length ≤ _; unfold maxLen; omega, hs⟩
theorem KidsG.row {w : World} {B n : Nat} {v : Value} {S : List Ty} {ls : List Lay} (h : KidsG w B n v S ls) (hs : ∀ s ∈ S, Ty.sized n s) (hl : S.length ≤ 1000) : RowAt w (TyAt w n) v S := by
  obtain ⟨_, _, e, _, _, _, _, hr⟩ := (h.lies 6 ⟨#[]⟩).1.at (kids_sized hs hl 6 (by omega))
  simp only [cellsK, List.cons.injEq, and_true] at e
  obtain ⟨_, _, _, rfl⟩ := e
  exact hr

/-- how great a type is that is drawn so deep -/
def bT : Nat → Nat
  | 0 => 4
  | d + 1 => 12 + 3 * bT d
theorem bulk_sz {n : Nat} {t : Ty} (h : Ty.sized n t) : Ty.bulk (n + 1) t = Ty.bulk n t := by
  induction n generalizing t with
  | zero => exact h.elim
  | succ n ih =>
    have e : (t.kids.map (Ty.bulk (n + 1))).sum = (t.kids.map (Ty.bulk n)).sum := by
      congr 1
      exact List.map_congr_left fun k hk => ih (h.2.2.2.2 k hk)
    show t.name.size + (t.names.length + Ty.textsBulk t.names) + (t.kids.length + (t.kids.map (Ty.bulk (n + 1))).sum) = t.name.size + (t.names.length + Ty.textsBulk t.names) + (t.kids.length + (t.kids.map (Ty.bulk n)).sum)
    rw [e]
theorem leaf_sized (n : Nat) (kd : Int) (nm : ByteArray) (hk : -1 ≤ kd ∧ kd ≤ 100) (hn : nm.size ≤ 100) : Ty.sized (n + 1) (.mk kd nm [] []) :=
  ⟨⟨by show (-9223372036854775808 : Int) ≤ kd; omega, by show kd ≤ 9223372036854775807; omega⟩, by show nm.size ≤ _; unfold maxLen; omega, ⟨by show (0 : Nat) ≤ _; omega, fun x hx => by simp at hx⟩, by show (0 : Nat) ≤ _; omega, fun x hx => by simp at hx⟩
theorem leaf_lay (w : World) (n : Nat) (kd : Int) (nm : ByteArray) : LayAt w (n + 1) (.mk (.slice none 0 0) (.slice none 0 0) []) (.mk kd nm [] []) ∧ ∀ b ∈ Lay.blocks (n + 1) (.mk (.slice none 0 0) (.slice none 0 0) []), False := by
  refine ⟨⟨.inl ⟨rfl, rfl, _, _, rfl⟩, rfl, .inl ⟨rfl, rfl, _, _, rfl⟩, fun j h1 _ => absurd h1 (by simp)⟩, fun b hb => ?_⟩
  rcases List.mem_append.1 hb with hb | hb
  · simp [blk] at hb
  · simp [blk] at hb
theorem kids_bulk {n m : Nat} {S : List Ty} (h : ∀ s ∈ S, Ty.bulk n s ≤ m) : (S.map (Ty.bulk n)).sum ≤ S.length * m := by
  induction S with
  | nil => simp
  | cons a r ih =>
    have h1 := h a (by simp)
    have h2 := ih fun s hs => h s (by simp [hs])
    rw [List.map_cons, List.sum_cons, List.length_cons, Nat.add_mul]
    omega

/-- what a draw of a type leaves -/
def DrTy (B cb : Nat) (a : Option Addr) (len cap : Nat) (w : World) (n m : Nat) (e : Ending) (w' : World) : Prop :=
  ∃ (l : Lay) (t : Ty), e = .returned (.agg (cellsK t l).toArray) ∧ LayAt w' n l t ∧ (∀ b ∈ Lay.blocks n l, w.heap.size ≤ b) ∧ Ty.sized n t ∧ (Ty.bulk n t ≤ m ∧ (t.kids = [] → l.vk = .slice none 0 0)) ∧ Cur B w' cb a len cap ∧ w.grownBy w' (some cb)
/-- the same, its cells told -/
theorem DrTy.told {B cb : Nat} {a : Option Addr} {len cap : Nat} {w : World} {n m : Nat} {e : Ending} {w' : World} (h : DrTy B cb a len cap w n m e w') :
    ∃ (kd : Int) (nm : ByteArray) (an : Option Addr) (ln cn : Nat) (ak : Option Addr) (lk ck : Nat), e = .returned (.agg #[.int .i64 kd, .string nm, .slice an ln cn, .slice ak lk ck]) ∧ (∃ (l : Lay) (t : Ty), cellsK t l = [.int .i64 kd, .string nm, .slice an ln cn, .slice ak lk ck] ∧ LayAt w' n l t ∧ (∀ b ∈ Lay.blocks n l, w.heap.size ≤ b) ∧ Ty.sized n t ∧ Ty.bulk n t ≤ m ∧ (t.kids = [] → l.vk = .slice none 0 0)) ∧ Cur B w' cb a len cap ∧ w.grownBy w' (some cb) := by
  obtain ⟨l, t, he, hl, hb, hs, ⟨hbk, hvd⟩, hC, hg⟩ := h
  cases n with
  | zero => exact hl.elim
  | succ n =>
    obtain ⟨an, cn, e1⟩ := hl.1.slice
    obtain ⟨ak, ck, e2⟩ := hl.2.2.1.slice
    have e3 : cellsK t l = [.int .i64 t.kind, .string t.name, .slice an t.names.length cn, .slice ak t.kids.length ck] := by unfold cellsK; rw [e1, e2]
    exact ⟨_, _, an, _, cn, ak, _, ck, by rw [he, e3], ⟨l, t, e3, hl, hb, hs, hbk, hvd⟩, hC, hg⟩

end Go.Proofs.YthomlchbgcjcfaaGreatDoor

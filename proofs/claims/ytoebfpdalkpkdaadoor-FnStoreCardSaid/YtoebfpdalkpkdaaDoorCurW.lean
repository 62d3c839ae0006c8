/-
  The walks of the draws' cursor: l01New, l01Byte, l01Below, l01Once. What a draw gives is not told, but its bounds are; of what was there nothing but the cursor's own block turns.
-/
import Derived.Test.YtoebfpdalkpkdaaDoorRows
import Derived.WalkKit
import Derived.WalkSpells
import Derived.WalkLawsBesides
import Derived.Deep.QuietTactic
import Derived.BigQuiet
import Derived.Lib.Builder
namespace Go.Proofs.YtoebfpdalkpkdaaDoor
open Go.RowKit

theorem i64_and255 (n : Int) : bits .and .i64 n 255 = n % 256 := by
  have h255 : (BitVec.ofInt 64 255).toNat = 2 ^ 8 - 1 := by decide
  have key : (BitVec.ofInt 64 n &&& BitVec.ofInt 64 255).toNat = (n % ((2 ^ 64 : Nat) : Int)).toNat % 2 ^ 8 := by
    rw [BitVec.toNat_and, BitVec.toNat_ofInt, h255, Nat.and_two_pow_sub_one_eq_mod]
  show IntKind.i64.wrap ((BitVec.ofInt 64 n &&& BitVec.ofInt 64 255).toNat : Nat) = n % 256
  rw [key, IntKind.wrap_i64]
  omega
theorem i64_and30 (n : Int) : bits .and .i64 n 1073741823 = n % 1073741824 := by
  have h30 : (BitVec.ofInt 64 1073741823).toNat = 2 ^ 30 - 1 := by decide
  have key : (BitVec.ofInt 64 n &&& BitVec.ofInt 64 1073741823).toNat = (n % ((2 ^ 64 : Nat) : Int)).toNat % 2 ^ 30 := by
    rw [BitVec.toNat_and, BitVec.toNat_ofInt, h30, Nat.and_two_pow_sub_one_eq_mod]
  show IntKind.i64.wrap ((BitVec.ofInt 64 n &&& BitVec.ofInt 64 1073741823).toNat : Nat) = n % 1073741824
  rw [key, IntKind.wrap_i64]
  omega

/-- a slice of bytes of so many -/
def Code (w : World) (a : Option Addr) (len : Nat) : Prop :=
  ∀ j, j < len → ∃ b off z, a = some ⟨b, off, none⟩ ∧ 0 ≤ z ∧ z ≤ 255 ∧ w.cell? ⟨b, off + j, none⟩ = some (.int .u8 z)

/-- the block cb holds a cursor over the slice -/
def IsCur (w : World) (cb : Nat) (a : Option Addr) (len cap : Nat) : Prop :=
  ∃ i h : Int, 0 ≤ i ∧ i ≤ len ∧ w.heap[cb]? = some (.cells #[.slice a len cap, .int .i64 i, .int .i64 h] 99 (0, 0))

/-- cursor and slice, the slice among what was there ahead of block B, the cursor behind it -/
structure Cur (B : Nat) (w : World) (cb : Nat) (a : Option Addr) (len cap : Nat) : Prop where
  low : ∀ b off, a = some ⟨b, off, none⟩ → 0 < len → b < B
  code : Code w a len
  here : B ≤ cb
  cur : IsCur w cb a len cap
  size : len ≤ 1048576

theorem Code.below {B : Nat} {w w' : World} {a : Option Addr} {len : Nat} (h : Code w a len) (hl : ∀ b off, a = some ⟨b, off, none⟩ → 0 < len → b < B) (hb : Below B w w') : Code w' a len := fun j hj => by
  obtain ⟨b, off, z, ha, h0, h1, hc⟩ := h j hj
  exact ⟨b, off, z, ha, h0, h1, (hb.cell (p := ⟨b, off + j, none⟩) (hl b off ha (by omega))).trans hc⟩

/-- a cursor stays one where its block stays -/
theorem Cur.kept {B : Nat} {w w' : World} {cb : Nat} {a : Option Addr} {len cap : Nat} (h : Cur B w cb a len cap) (hb : Below B w w') (hk : w'.heap[cb]? = w.heap[cb]?) : Cur B w' cb a len cap := by
  obtain ⟨i, hh, h0, h1, hc⟩ := h.cur
  exact ⟨h.low, h.code.below h.low hb, h.here, ⟨i, hh, h0, h1, hk.trans hc⟩, h.size⟩

theorem lt_of_heap {w : World} {b : Nat} {o : Obj} (h : w.heap[b]? = some o) : b < w.heap.size := (Array.getElem?_eq_some_iff.1 h).1

theorem Cur.drewN {B : Nat} {w : World} {cb : Nat} {a : Option Addr} {len cap : Nat} (h : Cur B w cb a len cap) (n : Nat) : Cur B (w.drewN n) cb a len cap := h.kept (below_drewN (Below.refl _ _) n) rfl
theorem grown_drewN {w w' : World} {r : Option Nat} (h : w.grownBy w' r) (n : Nat) : w.grownBy (w'.drewN n) r := ⟨h.os, h.tape, h.output, h.size, h.block⟩
theorem grown_trans {a b c : World} {r : Option Nat} (h : a.grownBy b r) (k : b.grownBy c r) : a.grownBy c r :=
  ⟨k.os.trans h.os, k.tape.trans h.tape, k.output.trans h.output, Nat.le_trans h.size k.size, fun j hj hr => (k.block j (Nat.lt_of_lt_of_le hj h.size) hr).trans (h.block j hj hr)⟩
theorem grown_set (w : World) (cb off : Nat) (v : Value) : w.grownBy (w.setCell ⟨cb, off, none⟩ v) (some cb) :=
  ⟨rfl, rfl, rfl, by simp, fun k _ hne => Below.heap_setCell w _ v k (fun e => hne (by rw [e]))⟩

/-- a new sum in the cursor -/
theorem cur_sum {B : Nat} {w : World} {cb : Nat} {a : Option Addr} {len cap : Nat} (hC : Cur B w cb a len cap) (v : Int) : Cur B (w.setCell ⟨cb, 2, none⟩ (.int .i64 v)) cb a len cap := by
  obtain ⟨hlow, hcode, hhere, ⟨i, h, hi0, hi1, hblk⟩, hsize⟩ := hC
  exact ⟨hlow, hcode.below hlow ((Below.refl B w).setCell (p := ⟨cb, 2, none⟩) hhere _), hhere, ⟨i, v, hi0, hi1, by simp [World.setCell, Array.getElem?_modify, hblk]⟩, hsize⟩
/-- a new place in the cursor -/
theorem cur_place {B : Nat} {w : World} {cb : Nat} {a : Option Addr} {len cap : Nat} (hC : Cur B w cb a len cap) (v : Int) (h0 : 0 ≤ v) (h1 : v ≤ len) : Cur B (w.setCell ⟨cb, 1, none⟩ (.int .i64 v)) cb a len cap := by
  obtain ⟨hlow, hcode, hhere, ⟨i, h, hi0, hi1, hblk⟩, hsize⟩ := hC
  exact ⟨hlow, hcode.below hlow ((Below.refl B w).setCell (p := ⟨cb, 1, none⟩) hhere _), hhere, ⟨v, h, h0, h1, by simp [World.setCell, Array.getElem?_modify, hblk]⟩, hsize⟩

set_option maxHeartbeats 800000 in
set_option maxRecDepth 100000 in
theorem drawByte (B cb : Nat) (a : Option Addr) (len cap : Nat) (w : World) (hC : Cur B w cb a len cap) :
    Calls Tryd.prog 78 #[.pointer (some ⟨cb, 0, none⟩)] w fun e w' => ∃ x : Int, e = .returned (.int .i64 x) ∧ 0 ≤ x ∧ x ≤ 255 ∧ Cur B w' cb a len cap ∧ w.grownBy w' (some cb) := by
  have HC0 : Hid (Cur B w cb a len cap) := hC
  obtain ⟨hlow, hcode, hhere, ⟨i, h, hi0, hi1, hblk⟩, hsize⟩ := hC
  have c0 : w.cell? ⟨cb, 0, none⟩ = some (.slice a len cap) := by rw [Lib.cell_of_heap hblk]; rfl
  have c1 : w.cell? ⟨cb, 1, none⟩ = some (.int .i64 i) := by rw [Lib.cell_of_heap hblk]; rfl
  have c2 : w.cell? ⟨cb, 2, none⟩ = some (.int .i64 h) := by rw [Lib.cell_of_heap hblk]; rfl
  have f1 : w.frozen? ⟨cb, 1, none⟩ = false := Lib.frozen_of_heap hblk 1
  have f2 : w.frozen? ⟨cb, 2, none⟩ = false := Lib.frozen_of_heap hblk 2
  have hand := i64_and255
  have HL : Hid (∀ b off, a = some ⟨b, off, none⟩ → 0 < len → b < B) := hlow
  have HC : Hid (Code w a len) := hcode
  clear hblk hlow hcode
  by_cases hlt : i < len
  · obtain ⟨b, off, z, rfl, hz0, hz1, hz⟩ := HC.out i.toNat (by omega)
    have hbne : ¬ b = cb := by have := HL.out b off rfl (by omega); omega
    go_enter Tryd.func78, Tryd.ntmps78
    go_wp2
    go_quiet (fail)
    go_wp2
    go_quiet (fail)
    go_wp2
    go_quiet (fail)
    go_wp2
    go_ret
    exact ⟨_, rfl, by omega, by omega, cur_place ((cur_sum HC0.out _).drewN _) _ (by omega) (by omega), grown_trans (grown_drewN (grown_set _ _ _ _) _) (grown_set _ _ _ _)⟩
  · go_enter Tryd.func78, Tryd.ntmps78
    go_wp2
    go_quiet (fail)
    go_wp2
    go_quiet (fail)
    go_wp2
    go_ret
    exact ⟨_, rfl, by omega, by omega, ((cur_sum HC0.out _).drewN _).drewN _, grown_drewN (grown_drewN (grown_set _ _ _ _) _) _⟩

set_option maxHeartbeats 400000 in
theorem drawBelow (B cb : Nat) (a : Option Addr) (len cap : Nat) (w : World) (n : Int) (hC : Cur B w cb a len cap) (hn : n ≤ 1000000000) :
    Calls Tryd.prog 65 #[.pointer (some ⟨cb, 0, none⟩), .int .i64 n] w fun e w' => ∃ x : Int, e = .returned (.int .i64 x) ∧ 0 ≤ x ∧ (1 ≤ n → x < n) ∧ (n ≤ 0 → x = 0) ∧ Cur B w' cb a len cap ∧ w.grownBy w' (some cb) := by
  have HC : Hid (Cur B w cb a len cap) := hC
  clear hC
  by_cases h0 : n ≤ 0
  · go_enter Tryd.func65, Tryd.ntmps65
    go_wp2
    go_ret
    exact ⟨_, rfl, by omega, by omega, fun _ => rfl, HC.out, World.grownBy.refl _ _⟩
  · by_cases h1 : n ≤ 256
    · go_enter Tryd.func65, Tryd.ntmps65
      go_wp2_with fail
      refine (drawByte B cb a len cap _ HC.out).mono ?_
      rintro e w1 ⟨x, rfl, hx0, hx1, hC1, hg1⟩
      have HC1 : Hid (Cur B w1 cb a len cap ∧ w.grownBy w1 (some cb)) := ⟨hC1, hg1⟩
      clear hC1 hg1 HC
      have hm0 : 0 ≤ x % n := Int.emod_nonneg _ (by omega)
      have hm1 : x % n < n := Int.emod_lt_of_pos _ (by omega)
      have hnz : ¬ n = 0 := by omega
      go_wp2
      go_ret
      exact ⟨_, rfl, hm0, fun _ => hm1, by omega, HC1.out.1, HC1.out.2⟩
    · go_enter Tryd.func65, Tryd.ntmps65
      go_wp2_with fail
      refine (drawByte B cb a len cap _ HC.out).mono ?_
      rintro e w1 ⟨x, rfl, hx0, hx1, hC1, hg1⟩
      have HC1 : Hid (Cur B w1 cb a len cap ∧ w.grownBy w1 (some cb)) := ⟨hC1, hg1⟩
      clear hC1 hg1 HC
      go_wp2_with fail
      refine (drawByte B cb a len cap _ HC1.out.1).mono ?_
      rintro e w2 ⟨y, rfl, hy0, hy1, hC2, hg2⟩
      have HC2 : Hid (Cur B w2 cb a len cap ∧ w.grownBy w2 (some cb)) := ⟨hC2, grown_trans HC1.out.2 hg2⟩
      clear hC2 hg2 HC1
      go_wp2_with fail
      refine (drawByte B cb a len cap _ HC2.out.1).mono ?_
      rintro e w3 ⟨z, rfl, hz0, hz1, hC3, hg3⟩
      have HC3 : Hid (Cur B w3 cb a len cap ∧ w.grownBy w3 (some cb)) := ⟨hC3, grown_trans HC2.out.2 hg3⟩
      clear hC3 hg3 HC2
      go_wp2_with fail
      refine (drawByte B cb a len cap _ HC3.out.1).mono ?_
      rintro e w4 ⟨v, rfl, hv0, hv1, hC4, hg4⟩
      have HC4 : Hid (Cur B w4 cb a len cap ∧ w.grownBy w4 (some cb)) := ⟨hC4, grown_trans HC3.out.2 hg4⟩
      clear hC4 hg4 HC3
      have hm0 : 0 ≤ (x * 16777216 + y * 65536 + z * 256 + v) % n := Int.emod_nonneg _ (by omega)
      have hm1 : (x * 16777216 + y * 65536 + z * 256 + v) % n < n := Int.emod_lt_of_pos _ (by omega)
      have hnz : ¬ n = 0 := by omega
      go_wp2
      go_ret
      exact ⟨_, rfl, hm0, fun _ => hm1, by omega, HC4.out.1, HC4.out.2⟩

set_option maxHeartbeats 400000 in
set_option maxRecDepth 100000 in
theorem drawNew (a : Option Addr) (len cap : Nat) (w : World) (hlow : ∀ b off, a = some ⟨b, off, none⟩ → 0 < len → b < w.heap.size) (hcode : Code w a len) (hsize : len ≤ 1048576) :
    Calls Tryd.prog 43 #[.slice a len cap] w fun e w' => e = .returned (.pointer (some ⟨w.heap.size, 0, none⟩)) ∧ Cur w.heap.size w' w.heap.size a len cap ∧ Below w.heap.size w w' := by
  have HL : Hid (∀ b off, a = some ⟨b, off, none⟩ → 0 < len → b < w.heap.size) := hlow
  have HC : Hid (Code w a len) := hcode
  clear hlow hcode
  have hand := i64_and30
  go_enter Tryd.func43, Tryd.ntmps43
  go_wp2
  go_loop [3, 4] (fun h i => ∃ (x : Int) (k : Nat), 0 ≤ x ∧ x ≤ 1073741824 ∧ k ≤ len ∧ h = .int .i64 x ∧ i = .int .i64 k) (fun _ i => len - (intOf i).toNat)
  case atStart => exact ⟨_, 0, by omega, by omega, by omega, rfl, rfl⟩
  case round =>
    obtain ⟨x, k, hx0, hx1, hk, rfl, rfl⟩ := hrel
    by_cases hlt : k < len ∧ k < 4000
    · obtain ⟨hl1, hl2⟩ := hlt
      obtain ⟨b, off, z, rfl, hz0, hz1, hz⟩ := HC.out k hl1
      have hm0 : 0 ≤ (x * 131 + z + 7) % 1073741824 := Int.emod_nonneg _ (by omega)
      have hm1 : (x * 131 + z + 7) % 1073741824 < 1073741824 := Int.emod_lt_of_pos _ (by omega)
      go_wp2
      go_round
      case rel => exact ⟨_, k + 1, hm0, by omega, by omega, rfl, by go_num⟩
      case measure => simp [intOf]; omega
    · by_cases hl1 : k < len
      · have hl2 : ¬ (k : Int) < 4000 := by omega
        clear hlt
        go_wp2
        go_ret
        refine ⟨rfl, ⟨HL.out, HC.out.below HL.out ((Below.refl _ _).alloc (Nat.le_refl _) _), Nat.le_refl _, ⟨0, x, by omega, by omega, heap_alloc_new w _⟩, hsize⟩, (Below.refl _ _).alloc (Nat.le_refl _) _⟩
      · clear hlt
        go_wp2
        go_ret
        refine ⟨rfl, ⟨HL.out, HC.out.below HL.out ((Below.refl _ _).alloc (Nat.le_refl _) _), Nat.le_refl _, ⟨0, x, by omega, by omega, heap_alloc_new w _⟩, hsize⟩, (Below.refl _ _).alloc (Nat.le_refl _) _⟩

end Go.Proofs.YtoebfpdalkpkdaaDoor

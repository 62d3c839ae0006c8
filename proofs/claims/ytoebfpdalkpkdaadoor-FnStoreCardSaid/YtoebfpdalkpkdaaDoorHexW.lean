/-
  The walk of the library's formatBits at base 16, and of FormatUint above it: the hexadecimal digits.
-/
import Derived.Test.YtoebfpdalkpkdaaDoorRows
import Derived.Test.YtoebfpdalkpkdaaDoorHexP
import Derived.WalkKit
import Derived.WalkSpells
import Derived.WalkLawsBesides
import Derived.Laws.BytesArg
import Derived.Lib.LaidTab
namespace Go.Proofs.YtoebfpdalkpkdaaDoor
open Go.RowKit

set_option maxHeartbeats 400000 in
theorem libTrail (w : World) (hc : w.cell? ⟨3, 15, none⟩ = some (.int .u8 4)) :
    Calls Tryd.prog 108 #[.int .u64 16] w fun e w' => e = .returned (.int .i64 4) ∧ w = w' := by
  have e1 : bits BinOp.and IntKind.u64 16 (IntKind.u64.wrap (-16)) = 16 := by decide +kernel
  have e2 : IntKind.u64.wrap (4573923408821661840) = 4573923408821661840 := by decide +kernel
  go_enter Tryd.func108, Tryd.ntmps108
  go_wp2
  go_ret
  exact ⟨rfl, rfl⟩

set_option maxHeartbeats 400000 in
theorem libPow (w : World) :
    Calls Tryd.prog 107 #[.int .i64 16] w fun e w' => e = .returned (.bool true) ∧ w = w' := by
  go_enter Tryd.func107, Tryd.ntmps107
  go_wp2
  go_ret
  exact ⟨rfl, rfl⟩

def zeros65 : Array Value := Array.replicate 65 (.int .u8 0)

/-- a row of 65 bytes whose last ones are these -/
def Buf (w : World) (B T : Nat) (l : List UInt8) : Prop :=
  ∃ cur : Array Value, w.heap[B]? = some (.cells cur T (0, 0)) ∧ cur.size = 65 ∧ ∀ j (h : j < l.length), cur[65 - l.length + j]? = some (.int .u8 (l[j].toNat : Int))

theorem buf_start (w : World) (T : Nat) : Buf (w.alloc (.cells zeros65 T)) w.heap.size T [] :=
  ⟨zeros65, heap_alloc_new w _, by simp [zeros65], fun j h => absurd h (by simp)⟩

theorem buf_some {w : World} {B T : Nat} {l : List UInt8} (h : Buf w B T l) (i : Nat) (hi : i < 65) : ∃ u, w.cell? ⟨B, i, none⟩ = some u := by
  obtain ⟨cur, hb, hs, _⟩ := h
  rw [Lib.cell_of_heap hb i]
  exact ⟨_, Array.getElem?_eq_getElem (by omega)⟩
theorem buf_free {w : World} {B T : Nat} {l : List UInt8} (h : Buf w B T l) (i : Nat) : w.frozen? ⟨B, i, none⟩ = false := by
  obtain ⟨cur, hb, hs, _⟩ := h
  exact Lib.frozen_of_heap hb i
theorem buf_put {w : World} {B T : Nat} {l : List UInt8} (h : Buf w B T l) (hl : l.length < 65) (d : UInt8) : Buf (w.setCell ⟨B, 65 - l.length - 1, none⟩ (.int .u8 (d.toNat : Int))) B T (d :: l) := by
  obtain ⟨cur, hb, hs, hc⟩ := h
  refine ⟨cur.setIfInBounds (65 - l.length - 1) (.int .u8 (d.toNat : Int)), by simp [World.setCell, Array.getElem?_modify, hb], by simp [hs], fun j hj => ?_⟩
  cases j with
  | zero =>
    have e : 65 - (d :: l).length + 0 = 65 - l.length - 1 := by simp; omega
    rw [e, Array.getElem?_setIfInBounds_self_of_lt (by omega)]
    rfl
  | succ j =>
    have hj' : j < l.length := by simpa using hj
    have e : 65 - (d :: l).length + (j + 1) = 65 - l.length + j := by simp; omega
    rw [e, Array.getElem?_setIfInBounds_ne (by omega), hc j hj']
    rfl
theorem buf_cell {w : World} {B T : Nat} {l : List UInt8} (h : Buf w B T l) (j : Nat) (hj : j < l.length) : w.cell? ⟨B, 65 - l.length + j, none⟩ = some (.int .u8 (l[j].toNat : Int)) := by
  obtain ⟨cur, hb, hs, hc⟩ := h
  rw [Lib.cell_of_heap hb]
  exact hc j hj

theorem and_fifteen (x : Nat) (h : x < 18446744073709551616) : bits BinOp.and IntKind.u64 (x : Int) 15 = (x : Int) % 16 := by
  have h1 := bits_and_u64_nat x 15 h (by omega)
  rw [show (15 : Nat) = 2 ^ 4 - 1 from rfl, Nat.and_two_pow_sub_one_eq_mod] at h1
  refine h1.trans ?_
  simp

theorem run_hexdigit (d : Nat) (h : d < 16) (wx : World) : (Instr.index 9 (.string ⟨#[48, 49, 50, 51, 52, 53, 54, 55, 56, 57, 97, 98, 99, 100, 101, 102, 103, 104, 105, 106, 107, 108, 109, 110, 111, 112, 113, 114, 115, 116, 117, 118, 119, 120, 121, 122]⟩) (.int .u64 (d : Int))).run Tryd.prog wx = .ok (.int .u8 ((Hex.hd d).toNat : Int)) wx := by
  have hd : d = 0 ∨ d = 1 ∨ d = 2 ∨ d = 3 ∨ d = 4 ∨ d = 5 ∨ d = 6 ∨ d = 7 ∨ d = 8 ∨ d = 9 ∨ d = 10 ∨ d = 11 ∨ d = 12 ∨ d = 13 ∨ d = 14 ∨ d = 15 := by omega
  rcases hd with rfl | rfl | rfl | rfl | rfl | rfl | rfl | rfl | rfl | rfl | rfl | rfl | rfl | rfl | rfl | rfl
  all_goals (show _ = _; kernel_rfl)

set_option maxHeartbeats 400000 in
set_option maxRecDepth 100000 in
theorem libFormat (u : Nat) (w : World) (hu : u < 18446744073709551616) (hc : w.cell? ⟨3, 15, none⟩ = some (.int .u8 4)) :
    Calls Tryd.prog 91 #[.slice none 0 0, .int .u64 u, .int .i64 16, .bool false, .bool false] w fun e w' => e = .returned (.tuple #[.slice none 0 0, .string ⟨(Hex.hx 15 u).toArray⟩]) ∧ Below w.heap.size w w' := by
  have hgl : 3 < w.heap.size := World.block_lt_of_cell? w ⟨3, 15, none⟩ hc
  have hz : ∀ wx : World, (zeroValue 150).run Tryd.prog wx = .ok (.agg zeros65) wx := fun wx => by kernel_rfl
  have hc1 : ∀ o, (w.alloc o).cell? ⟨3, 15, none⟩ = some (.int .u8 4) := fun o => by rw [World.cell?_alloc_past _ _ _ hgl]; exact hc
  have HB := buf_start w 150
  go_enter Tryd.func91, Tryd.ntmps91
  go_wp2_with (first | (go_at_call 107; refine (libPow _).mono ?_; rintro e w1 ⟨rfl, rfl⟩) | (go_at_call 108; refine (libTrail _ (hc1 _)).mono ?_; rintro e w1 ⟨rfl, rfl⟩))
  clear hc hc1 hz
  go_loopw [1, 13] (fun x i wr => ∃ (k f : Nat) (l : List UInt8), x = .int .u64 k ∧ i = .int .i64 (65 - (l.length : Int)) ∧ l.length + f = 15 ∧ k < 16 ^ (f + 1) ∧ k < 18446744073709551616 ∧ Hex.hx f k ++ l = Hex.hx 15 u ∧ Buf wr w.heap.size 150 l ∧ Below w.heap.size w wr) (fun x _ _ => (intOf x).toNat)
  case atStart => exact ⟨u, 15, [], rfl, rfl, rfl, by omega, hu, by simp, HB, (Below.refl _ _).alloc (Nat.le_refl _) _⟩
  case round =>
    obtain ⟨k, f, l, rfl, rfl, hlf, hkf, hk, hhx, hbuf, hbe⟩ := hrel
    have HK : Hid (k < 16 ^ (f + 1)) := hkf
    have HX : Hid (Hex.hx f k ++ l = Hex.hx 15 u) := hhx
    have hll : l.length ≤ 15 := by omega
    clear hkf hhx HB
    obtain ⟨c, hold⟩ := buf_some hbuf (65 - l.length - 1) (by omega)
    have hfz := buf_free hbuf (65 - l.length - 1)
    by_cases hlt : 16 ≤ k
    · obtain ⟨f, rfl⟩ : ∃ q, f = q + 1 := by
        cases f with
        | zero => have := HK.out; simp at this; omega
        | succ q => exact ⟨q, rfl⟩
      have HK2 : Hid (k / 16 < 16 ^ (f + 1)) := by
        have h2 : k < 16 ^ (f + 1 + 1) := HK.out
        rw [Nat.pow_succ] at h2
        exact Nat.div_lt_of_lt_mul (by omega)
      have HX2 : Hid (Hex.hx f (k / 16) ++ (Hex.hd (k % 16) :: l) = Hex.hx 15 u) := by
        have h2 : Hex.hx (f + 1) k ++ l = Hex.hx 15 u := HX.out
        rw [Hex.hx_big f k hlt, List.append_assoc] at h2
        exact h2
      have hand := and_fifteen k hk
      have hdig := run_hexdigit (k % 16) (by omega)
      rw [show (((k % 16 : Nat)) : Int) = (k : Int) % 16 from by omega] at hdig
      have R1 := buf_put hbuf (by omega) (Hex.hd (k % 16))
      have R2 : Below w.heap.size w (wr.setCell ⟨w.heap.size, 65 - l.length - 1, none⟩ (.int .u8 ((Hex.hd (k % 16)).toNat : Int))) := hbe.setCell (Nat.le_refl _) _
      generalize Hex.hd (k % 16) = D at *
      go_wp2
      go_roundw
      case rel => exact ⟨k / 16, f, D :: l, by go_num, by simp; omega, by simp; omega, HK2.out, by omega, HX2.out, R1, R2⟩
      case measure => simp [intOf]; omega
    · have HX2 : Hid (Hex.hd k :: l = Hex.hx 15 u) := by
        have h2 : Hex.hx f k ++ l = Hex.hx 15 u := HX.out
        rw [Hex.hx_small f k (by omega)] at h2
        exact h2
      have hdig := run_hexdigit k (by omega)
      have R1 := buf_put hbuf (by omega) (Hex.hd k)
      have R2 : Below w.heap.size w (wr.setCell ⟨w.heap.size, 65 - l.length - 1, none⟩ (.int .u8 ((Hex.hd k).toNat : Int))) := hbe.setCell (Nat.le_refl _) _
      generalize Hex.hd k = D at *
      have hsl : ∀ W, (Instr.sliceAt 150 (.pointer (some ⟨w.heap.size, 0, none⟩)) (some (.int .i64 (65 - (l.length : Int) - 1))) none none).run Tryd.prog W = .ok (.slice (some ⟨w.heap.size, 65 - l.length - 1, none⟩) (D :: l).length (D :: l).length) W := fun W => by
        have hal : Tryd.prog.arrayLen 150 = 65 := by kernel_rfl
        rw [run_sliceAt_array_l W 150 ⟨w.heap.size, 0, none⟩ (by kernel_rfl) .i64 (65 - (l.length : Int) - 1) (by omega) (by rw [hal]; omega), hal]
        have hel : (Go.sizeOf (Tryd.prog.elem 150)).run Tryd.prog W = .ok 1 W := by kernel_rfl
        rw [hel]
        have e1 : (65 - (l.length : Int) - 1).toNat = 65 - l.length - 1 := by omega
        have e2 : (D :: l).length = 65 - (65 - l.length - 1) := by simp; omega
        rw [e1, e2]
        simp [Result.andThen, slicedAt, Addr.add]
        rw [if_neg (by omega), if_neg (by omega)]
      have hcv : (convert 41 9 (.slice (some ⟨w.heap.size, 65 - l.length - 1, none⟩) (D :: l).length (D :: l).length)).run Tryd.prog (wr.setCell ⟨w.heap.size, 65 - l.length - 1, none⟩ (.int .u8 (D.toNat : Int))) = .ok (.string ⟨(D :: l).toArray⟩) (wr.setCell ⟨w.heap.size, 65 - l.length - 1, none⟩ (.int .u8 (D.toNat : Int))) :=
        run_convert_bytes_back (P := Tryd.prog) _ 41 9 5 ⟨w.heap.size, 65 - l.length - 1, none⟩ (D :: l).length (D :: l) Tryd.underlying41 Tryd.underlying5 Tryd.underlying9 (fun j hj => by
          rw [Addr.add_lit]
          have := buf_cell R1 j hj
          rw [show 65 - (D :: l).length + j = 65 - l.length - 1 + j from by simp; omega] at this
          exact this)
      rw [HX2.out] at hsl hcv
      clear hbuf R1
      generalize (Hex.hx 15 u).length = n at *
      go_wp2
      go_ret2
      exact ⟨rfl, R2⟩

set_option maxHeartbeats 400000 in
theorem innerFormatUint (u : Nat) (w : World) (hu : u < 18446744073709551616) (hc : w.cell? ⟨3, 15, none⟩ = some (.int .u8 4)) :
    Calls Tryd.prog 71 #[.int .u64 u, .int .i64 16] w fun e w' => e = .returned (.string ⟨(Hex.hx 15 u).toArray⟩) ∧ Below w.heap.size w w' := by
  have HF : Hid (Calls Tryd.prog 91 #[.slice none 0 0, .int .u64 u, .int .i64 16, .bool false, .bool false] w fun e w' => e = .returned (.tuple #[.slice none 0 0, .string ⟨(Hex.hx 15 u).toArray⟩]) ∧ Below w.heap.size w w') := libFormat u w hu hc
  clear hc
  generalize (⟨(Hex.hx 15 u).toArray⟩ : ByteArray) = V at *
  go_enter Tryd.func71, Tryd.ntmps71
  go_wp2_with (go_at_call 91; refine HF.out.mono ?_; rintro e w1 ⟨rfl, hb⟩)
  go_ret
  exact ⟨rfl, hb⟩

set_option maxHeartbeats 400000 in
theorem libFormatUint (u : Nat) (w : World) (hu : u < 18446744073709551616) (hc : w.cell? ⟨3, 15, none⟩ = some (.int .u8 4)) :
    Calls Tryd.prog 58 #[.int .u64 u, .int .i64 16] w fun e w' => e = .returned (.string ⟨(Hex.hx 15 u).toArray⟩) ∧ Below w.heap.size w w' := by
  have HF : Hid (Calls Tryd.prog 71 #[.int .u64 u, .int .i64 16] w fun e w' => e = .returned (.string ⟨(Hex.hx 15 u).toArray⟩) ∧ Below w.heap.size w w') := innerFormatUint u w hu hc
  clear hc
  generalize (⟨(Hex.hx 15 u).toArray⟩ : ByteArray) = V at *
  go_enter Tryd.func58, Tryd.ntmps58
  go_wp2_with (go_at_call 71; refine HF.out.mono ?_; rintro e w1 ⟨rfl, hb⟩)
  go_ret
  exact ⟨rfl, hb⟩

end Go.Proofs.YtoebfpdalkpkdaaDoor

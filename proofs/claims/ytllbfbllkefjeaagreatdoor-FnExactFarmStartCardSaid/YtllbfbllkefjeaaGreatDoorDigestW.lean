/-
  The walks of impl.Digest and spec.Digest: each answers the same sum over the bytes, and turns nothing.
  Plain mathematics of hexadecimal digits: no program in sight.
  The walk of the library's formatBits at base 16, and of FormatUint above it: the hexadecimal digits.
-/
import Derived.Test.YtllbfbllkefjeaaGreatDoorRows
import Derived.WalkKit
import Derived.WalkSpells
import Derived.WalkLawsBesides
import Derived.Laws.BytesArg
import Derived.Lib.LaidTab
namespace Go.Proofs.YtllbfbllkefjeaaGreatDoor
open Go.RowKit

def digStart : Int := 14695981039346656037
def digStep (y : Int) (b : UInt8) : Int := IntKind.u64.wrap (bits BinOp.xor IntKind.u64 y (IntKind.u64.wrap (b.toNat : Int)) * 1099511628211)
/-- the sum over bytes -/
def dig (l : List UInt8) : Int := l.foldl digStep digStart

theorem dig_more (s : ByteArray) (k : Nat) (h : k < s.size) : dig (s.data.toList.take (k + 1)) = digStep (dig (s.data.toList.take k)) s[k] := by
  have e : s.data.toList.take (k + 1) = s.data.toList.take k ++ [s[k]] := by
    rw [List.take_succ_eq_append_getElem (by simpa using h)]
    rfl
  rw [e]
  simp [dig]

theorem dig_all (s : ByteArray) : s.data.toList.take s.size = s.data.toList := List.take_of_length_le (by simp)

set_option maxHeartbeats 400000 in
theorem implDigest (s : ByteArray) (w : World) (hs : s.size ≤ 140737488355328) :
    Calls Tryz.prog 110 #[.string s] w fun e w' => e = .returned (.int .u64 (dig s.data.toList)) ∧ w = w' := by
  go_enter Tryz.func110, Tryz.ntmps110
  go_wp2
  go_loop [3, 4] (fun x i => ∃ (k : Nat), k ≤ s.size ∧ i = .int .i64 k ∧ x = .int .u64 (dig (s.data.toList.take k))) (fun _ i => s.size - (intOf i).toNat)
  case atStart => exact ⟨0, Nat.zero_le _, rfl, by simp [dig, digStart]⟩
  case round =>
    obtain ⟨k, hk, rfl, rfl⟩ := hrel
    by_cases hlt : k < s.size
    · have HM : Hid (dig (s.data.toList.take (k + 1)) = digStep (dig (s.data.toList.take k)) s[k]) := dig_more s k hlt
      generalize hy : dig (s.data.toList.take k) = y at *
      clear hy
      go_wp2
      go_round
      case rel => exact ⟨k + 1, by omega, by go_num, by rw [HM.out]; rfl⟩
      case measure => simp [intOf]; omega
    · have hke : k = s.size := by omega
      subst hke
      rw [dig_all]
      go_wp2
      go_ret
      exact ⟨rfl, rfl⟩

set_option maxHeartbeats 400000 in
theorem specDigest (s : ByteArray) (w : World) (hs : s.size ≤ 140737488355328) :
    Calls Tryz.prog 72 #[.string s] w fun e w' => e = .returned (.int .u64 (dig s.data.toList)) ∧ w = w' := by
  go_enter Tryz.func72, Tryz.ntmps72
  go_wp2
  go_loop [3, 4] (fun x i => ∃ (k : Nat), k ≤ s.size ∧ i = .int .i64 k ∧ x = .int .u64 (dig (s.data.toList.take k))) (fun _ i => s.size - (intOf i).toNat)
  case atStart => exact ⟨0, Nat.zero_le _, rfl, by simp [dig, digStart]⟩
  case round =>
    obtain ⟨k, hk, rfl, rfl⟩ := hrel
    by_cases hlt : k < s.size
    · have HM : Hid (dig (s.data.toList.take (k + 1)) = digStep (dig (s.data.toList.take k)) s[k]) := dig_more s k hlt
      generalize hy : dig (s.data.toList.take k) = y at *
      clear hy
      go_wp2
      go_round
      case rel => exact ⟨k + 1, by omega, by go_num, by rw [HM.out]; rfl⟩
      case measure => simp [intOf]; omega
    · have hke : k = s.size := by omega
      subst hke
      rw [dig_all]
      go_wp2
      go_ret
      exact ⟨rfl, rfl⟩

end Go.Proofs.YtllbfbllkefjeaaGreatDoor

namespace Go.Proofs.YtllbfbllkefjeaaGreatDoor.Hex

/-- a digit's byte -/
def hd (d : Nat) : UInt8 := UInt8.ofNat (if d < 10 then 48 + d else 87 + d)

/-- the digits, no nought ahead -/
def hx : Nat → Nat → List UInt8
  | 0, u => [hd u]
  | f + 1, u => if u < 16 then [hd u] else hx f (u / 16) ++ [hd (u % 16)]
theorem hx_small (f u : Nat) (h : u < 16) : hx f u = [hd u] := by
  cases f with
  | zero => rfl
  | succ f => simp [hx, h]
theorem hx_big (f u : Nat) (h : 16 ≤ u) : hx (f + 1) u = hx f (u / 16) ++ [hd (u % 16)] := by
  rw [hx, if_neg (by omega)]
theorem hx_length (f u : Nat) : 1 ≤ (hx f u).length ∧ (hx f u).length ≤ f + 1 := by
  induction f generalizing u with
  | zero => simp [hx]
  | succ f ih =>
    by_cases h : u < 16
    · rw [hx_small _ _ h]; simp
    · rw [hx_big _ _ (by omega)]; have := ih (u / 16); simp; omega

/-- so many digits, noughts ahead -/
def hf : Nat → Nat → List UInt8
  | 0, _ => []
  | f + 1, u => hf f (u / 16) ++ [hd (u % 16)]
theorem hf_zero (f : Nat) : hf f 0 = List.replicate f 48 := by
  induction f with
  | zero => rfl
  | succ f ih => rw [hf, show 0 / 16 = 0 from rfl, ih, show (0 % 16) = 0 from rfl, List.replicate_succ']; rfl
theorem hf_hx (f u : Nat) (h : u < 16 ^ (f + 1)) : hf (f + 1) u = List.replicate (f + 1 - (hx f u).length) 48 ++ hx f u := by
  induction f generalizing u with
  | zero =>
    have hu : u % 16 = u := by simp at h; omega
    simp [hf, hx, hu]
  | succ f ih =>
    by_cases hs : u < 16
    · rw [hx_small _ _ hs, hf, show u / 16 = 0 from by omega, hf_zero, show u % 16 = u from by omega]
      simp
    · rw [hx_big _ _ (by omega), hf, ih (u / 16) (by rw [Nat.pow_succ] at h; exact Nat.div_lt_of_lt_mul (by omega))]
      have := hx_length f (u / 16)
      rw [List.append_assoc, List.length_append, List.length_singleton, show f + 1 + 1 - ((hx f (u / 16)).length + 1) = f + 1 - (hx f (u / 16)).length from by omega]

end Go.Proofs.YtllbfbllkefjeaaGreatDoor.Hex

namespace Go.Proofs.YtllbfbllkefjeaaGreatDoor
open Go.RowKit

set_option maxHeartbeats 400000 in
theorem libTrail (w : World) (hc : w.cell? ⟨5, 15, none⟩ = some (.int .u8 4)) :
    Calls Tryz.prog 167 #[.int .u64 16] w fun e w' => e = .returned (.int .i64 4) ∧ w = w' := by
  have e1 : bits BinOp.and IntKind.u64 16 (IntKind.u64.wrap (-16)) = 16 := by decide +kernel
  have e2 : IntKind.u64.wrap (4573923408821661840) = 4573923408821661840 := by decide +kernel
  go_enter Tryz.func167, Tryz.ntmps167
  go_wp2
  go_ret
  exact ⟨rfl, rfl⟩

set_option maxHeartbeats 400000 in
theorem libPow (w : World) :
    Calls Tryz.prog 166 #[.int .i64 16] w fun e w' => e = .returned (.bool true) ∧ w = w' := by
  go_enter Tryz.func166, Tryz.ntmps166
  go_wp2
  go_ret
  exact ⟨rfl, rfl⟩

def zeros65 : Array Value := Array.replicate 65 (.int .u8 0)

/-- a row of 65 bytes whose last ones are these -/
def Buf (w : World) (B T : Nat) (l : List UInt8) : Prop :=
  ∃ cur : Array Value, w.heap[B]? = some (.cells cur T (0, 0)) ∧ cur.size = 65 ∧ ∀ j (h : j < l.length), cur[65 - l.length + j]? = some (.int .u8 (l[j].toNat : Int))

theorem buf_start (w : World) (T : Nat) : Buf (w.alloc (.cells zeros65 T)) w.heap.size T [] :=
  ⟨zeros65, heap_alloc_new w _, by simp [zeros65], fun j h => absurd h (by simp)⟩

theorem buf_some {w : World} {B T : Nat} {l : List UInt8} (h : Buf w B T l) (i : Nat) (hi : i < 65) : ∃ u, w.cell? ⟨B, i, none⟩ = some u := by
  obtain ⟨cur, hb, hs, _⟩ := h
  rw [Lib.cell_of_heap hb i]
  exact ⟨_, Array.getElem?_eq_getElem (by omega)⟩
theorem buf_free {w : World} {B T : Nat} {l : List UInt8} (h : Buf w B T l) (i : Nat) : w.frozen? ⟨B, i, none⟩ = false := by
  obtain ⟨cur, hb, hs, _⟩ := h
  exact Lib.frozen_of_heap hb i
theorem buf_put {w : World} {B T : Nat} {l : List UInt8} (h : Buf w B T l) (hl : l.length < 65) (d : UInt8) : Buf (w.setCell ⟨B, 65 - l.length - 1, none⟩ (.int .u8 (d.toNat : Int))) B T (d :: l) := by
  obtain ⟨cur, hb, hs, hc⟩ := h
  refine ⟨cur.setIfInBounds (65 - l.length - 1) (.int .u8 (d.toNat : Int)), by simp [World.setCell, Array.getElem?_modify, hb], by simp [hs], fun j hj => ?_⟩
  cases j with
  | zero =>
    have e : 65 - (d :: l).length + 0 = 65 - l.length - 1 := by simp; omega
    rw [e, Array.getElem?_setIfInBounds_self_of_lt (by omega)]
    rfl
  | succ j =>
    have hj' : j < l.length := by simpa using hj
    have e : 65 - (d :: l).length + (j + 1) = 65 - l.length + j := by simp; omega
    rw [e, Array.getElem?_setIfInBounds_ne (by omega), hc j hj']
    rfl
theorem buf_cell {w : World} {B T : Nat} {l : List UInt8} (h : Buf w B T l) (j : Nat) (hj : j < l.length) : w.cell? ⟨B, 65 - l.length + j, none⟩ = some (.int .u8 (l[j].toNat : Int)) := by
  obtain ⟨cur, hb, hs, hc⟩ := h
  rw [Lib.cell_of_heap hb]
  exact hc j hj

theorem and_fifteen (x : Nat) (h : x < 18446744073709551616) : bits BinOp.and IntKind.u64 (x : Int) 15 = (x : Int) % 16 := by
  have h1 := bits_and_u64_nat x 15 h (by omega)
  rw [show (15 : Nat) = 2 ^ 4 - 1 from rfl, Nat.and_two_pow_sub_one_eq_mod] at h1
  refine h1.trans ?_
  simp

theorem run_hexdigit (d : Nat) (h : d < 16) (wx : World) : (Instr.index 9 (.string ⟨#[48, 49, 50, 51, 52, 53, 54, 55, 56, 57, 97, 98, 99, 100, 101, 102, 103, 104, 105, 106, 107, 108, 109, 110, 111, 112, 113, 114, 115, 116, 117, 118, 119, 120, 121, 122]⟩) (.int .u64 (d : Int))).run Tryz.prog wx = .ok (.int .u8 ((Hex.hd d).toNat : Int)) wx := by
  have hd : d = 0 ∨ d = 1 ∨ d = 2 ∨ d = 3 ∨ d = 4 ∨ d = 5 ∨ d = 6 ∨ d = 7 ∨ d = 8 ∨ d = 9 ∨ d = 10 ∨ d = 11 ∨ d = 12 ∨ d = 13 ∨ d = 14 ∨ d = 15 := by omega
  rcases hd with rfl | rfl | rfl | rfl | rfl | rfl | rfl | rfl | rfl | rfl | rfl | rfl | rfl | rfl | rfl | rfl
  all_goals (show _ = _; kernel_rfl)

set_option maxHeartbeats 400000 in
set_option maxRecDepth 100000 in
theorem libFormat (u : Nat) (w : World) (hu : u < 18446744073709551616) (hc : w.cell? ⟨5, 15, none⟩ = some (.int .u8 4)) :
    Calls Tryz.prog 149 #[.slice none 0 0, .int .u64 u, .int .i64 16, .bool false, .bool false] w fun e w' => e = .returned (.tuple #[.slice none 0 0, .string ⟨(Hex.hx 15 u).toArray⟩]) ∧ Below w.heap.size w w' := by
  have hgl : 5 < w.heap.size := World.block_lt_of_cell? w ⟨5, 15, none⟩ hc
  have hz : ∀ wx : World, (zeroValue 247).run Tryz.prog wx = .ok (.agg zeros65) wx := fun wx => by kernel_rfl
  have hc1 : ∀ o, (w.alloc o).cell? ⟨5, 15, none⟩ = some (.int .u8 4) := fun o => by rw [World.cell?_alloc_past _ _ _ hgl]; exact hc
  have HB := buf_start w 247
  go_enter Tryz.func149, Tryz.ntmps149
  go_wp2_with (first | (go_at_call 166; refine (libPow _).mono ?_; rintro e w1 ⟨rfl, rfl⟩) | (go_at_call 167; refine (libTrail _ (hc1 _)).mono ?_; rintro e w1 ⟨rfl, rfl⟩))
  clear hc hc1 hz
  go_loopw [1, 13] (fun x i wr => ∃ (k f : Nat) (l : List UInt8), x = .int .u64 k ∧ i = .int .i64 (65 - (l.length : Int)) ∧ l.length + f = 15 ∧ k < 16 ^ (f + 1) ∧ k < 18446744073709551616 ∧ Hex.hx f k ++ l = Hex.hx 15 u ∧ Buf wr w.heap.size 247 l ∧ Below w.heap.size w wr) (fun x _ _ => (intOf x).toNat)
  case atStart => exact ⟨u, 15, [], rfl, rfl, rfl, by omega, hu, by simp, HB, (Below.refl _ _).alloc (Nat.le_refl _) _⟩
  case round =>
    obtain ⟨k, f, l, rfl, rfl, hlf, hkf, hk, hhx, hbuf, hbe⟩ := hrel
    have HK : Hid (k < 16 ^ (f + 1)) := hkf
    have HX : Hid (Hex.hx f k ++ l = Hex.hx 15 u) := hhx
    have hll : l.length ≤ 15 := by omega
    clear hkf hhx HB
    obtain ⟨c, hold⟩ := buf_some hbuf (65 - l.length - 1) (by omega)
    have hfz := buf_free hbuf (65 - l.length - 1)
    by_cases hlt : 16 ≤ k
    · obtain ⟨f, rfl⟩ : ∃ q, f = q + 1 := by
        cases f with
        | zero => have := HK.out; simp at this; omega
        | succ q => exact ⟨q, rfl⟩
      have HK2 : Hid (k / 16 < 16 ^ (f + 1)) := by
        have h2 : k < 16 ^ (f + 1 + 1) := HK.out
        rw [Nat.pow_succ] at h2
        exact Nat.div_lt_of_lt_mul (by omega)
      have HX2 : Hid (Hex.hx f (k / 16) ++ (Hex.hd (k % 16) :: l) = Hex.hx 15 u) := by
        have h2 : Hex.hx (f + 1) k ++ l = Hex.hx 15 u := HX.out
        rw [Hex.hx_big f k hlt, List.append_assoc] at h2
        exact h2
      have hand := and_fifteen k hk
      have hdig := run_hexdigit (k % 16) (by omega)
      rw [show (((k % 16 : Nat)) : Int) = (k : Int) % 16 from by omega] at hdig
      have R1 := buf_put hbuf (by omega) (Hex.hd (k % 16))
      have R2 : Below w.heap.size w (wr.setCell ⟨w.heap.size, 65 - l.length - 1, none⟩ (.int .u8 ((Hex.hd (k % 16)).toNat : Int))) := hbe.setCell (Nat.le_refl _) _
      generalize Hex.hd (k % 16) = D at *
      go_wp2
      go_roundw
      case rel => exact ⟨k / 16, f, D :: l, by go_num, by simp; omega, by simp; omega, HK2.out, by omega, HX2.out, R1, R2⟩
      case measure => simp [intOf]; omega
    · have HX2 : Hid (Hex.hd k :: l = Hex.hx 15 u) := by
        have h2 : Hex.hx f k ++ l = Hex.hx 15 u := HX.out
        rw [Hex.hx_small f k (by omega)] at h2
        exact h2
      have hdig := run_hexdigit k (by omega)
      have R1 := buf_put hbuf (by omega) (Hex.hd k)
      have R2 : Below w.heap.size w (wr.setCell ⟨w.heap.size, 65 - l.length - 1, none⟩ (.int .u8 ((Hex.hd k).toNat : Int))) := hbe.setCell (Nat.le_refl _) _
      generalize Hex.hd k = D at *
      have hsl : ∀ W, (Instr.sliceAt 247 (.pointer (some ⟨w.heap.size, 0, none⟩)) (some (.int .i64 (65 - (l.length : Int) - 1))) none none).run Tryz.prog W = .ok (.slice (some ⟨w.heap.size, 65 - l.length - 1, none⟩) (D :: l).length (D :: l).length) W := fun W => by
        have hal : Tryz.prog.arrayLen 247 = 65 := by kernel_rfl
        rw [run_sliceAt_array_l W 247 ⟨w.heap.size, 0, none⟩ (by kernel_rfl) .i64 (65 - (l.length : Int) - 1) (by omega) (by rw [hal]; omega), hal]
        have hel : (Go.sizeOf (Tryz.prog.elem 247)).run Tryz.prog W = .ok 1 W := by kernel_rfl
        rw [hel]
        have e1 : (65 - (l.length : Int) - 1).toNat = 65 - l.length - 1 := by omega
        have e2 : (D :: l).length = 65 - (65 - l.length - 1) := by simp; omega
        rw [e1, e2]
        simp [Result.andThen, slicedAt, Addr.add]
        rw [if_neg (by omega), if_neg (by omega)]
      have hcv : (convert 116 9 (.slice (some ⟨w.heap.size, 65 - l.length - 1, none⟩) (D :: l).length (D :: l).length)).run Tryz.prog (wr.setCell ⟨w.heap.size, 65 - l.length - 1, none⟩ (.int .u8 (D.toNat : Int))) = .ok (.string ⟨(D :: l).toArray⟩) (wr.setCell ⟨w.heap.size, 65 - l.length - 1, none⟩ (.int .u8 (D.toNat : Int))) :=
        run_convert_bytes_back (P := Tryz.prog) _ 116 9 5 ⟨w.heap.size, 65 - l.length - 1, none⟩ (D :: l).length (D :: l) Tryz.underlying116 Tryz.underlying5 Tryz.underlying9 (fun j hj => by
          rw [Addr.add_lit]
          have := buf_cell R1 j hj
          rw [show 65 - (D :: l).length + j = 65 - l.length - 1 + j from by simp; omega] at this
          exact this)
      rw [HX2.out] at hsl hcv
      clear hbuf R1
      generalize (Hex.hx 15 u).length = n at *
      go_wp2
      go_ret2
      exact ⟨rfl, R2⟩

set_option maxHeartbeats 400000 in
theorem innerFormatUint (u : Nat) (w : World) (hu : u < 18446744073709551616) (hc : w.cell? ⟨5, 15, none⟩ = some (.int .u8 4)) :
    Calls Tryz.prog 126 #[.int .u64 u, .int .i64 16] w fun e w' => e = .returned (.string ⟨(Hex.hx 15 u).toArray⟩) ∧ Below w.heap.size w w' := by
  have HF : Hid (Calls Tryz.prog 149 #[.slice none 0 0, .int .u64 u, .int .i64 16, .bool false, .bool false] w fun e w' => e = .returned (.tuple #[.slice none 0 0, .string ⟨(Hex.hx 15 u).toArray⟩]) ∧ Below w.heap.size w w') := libFormat u w hu hc
  clear hc
  generalize (⟨(Hex.hx 15 u).toArray⟩ : ByteArray) = V at *
  go_enter Tryz.func126, Tryz.ntmps126
  go_wp2_with (go_at_call 149; refine HF.out.mono ?_; rintro e w1 ⟨rfl, hb⟩)
  go_ret
  exact ⟨rfl, hb⟩

set_option maxHeartbeats 400000 in
theorem libFormatUint (u : Nat) (w : World) (hu : u < 18446744073709551616) (hc : w.cell? ⟨5, 15, none⟩ = some (.int .u8 4)) :
    Calls Tryz.prog 109 #[.int .u64 u, .int .i64 16] w fun e w' => e = .returned (.string ⟨(Hex.hx 15 u).toArray⟩) ∧ Below w.heap.size w w' := by
  have HF : Hid (Calls Tryz.prog 126 #[.int .u64 u, .int .i64 16] w fun e w' => e = .returned (.string ⟨(Hex.hx 15 u).toArray⟩) ∧ Below w.heap.size w w') := innerFormatUint u w hu hc
  clear hc
  generalize (⟨(Hex.hx 15 u).toArray⟩ : ByteArray) = V at *
  go_enter Tryz.func109, Tryz.ntmps109
  go_wp2_with (go_at_call 126; refine HF.out.mono ?_; rintro e w1 ⟨rfl, hb⟩)
  go_ret
  exact ⟨rfl, hb⟩

end Go.Proofs.YtllbfbllkefjeaaGreatDoor

/-
 The walks of impl.Digest and spec.Digest: each answers the same sum over the bytes, and turns nothing.
-/
import Derived.Test.YtbojmbeopnlmiaaGreatDoorPlain
namespace Go.Proofs.YtbojmbeopnlmiaaGreatDoor
open Go.RowKit
def digStart : Int := 14695981039346656037
def digStep (y : Int) (b : UInt8) : Int := IntKind.u64.wrap (bits BinOp.xor IntKind.u64 y (IntKind.u64.wrap (b.toNat : Int)) * 1099511628211)
def dig (l : List UInt8) : Int := l.foldl digStep digStart
theorem dig_more (s : ByteArray) (k : Nat) (h : k < s.size) : dig (s.data.toList.take (k + 1)) = digStep (dig (s.data.toList.take k)) s[k] := by
 have e : s.data.toList.take (k + 1) = s.data.toList.take k ++ [s[k]] := by
  rw [List.take_succ_eq_append_getElem (by simpa using h)]
  rfl
 rw [e]
 simp [dig]
theorem dig_all (s : ByteArray) : s.data.toList.take s.size = s.data.toList := List.take_of_length_le (by simp)
set_option maxHeartbeats 400000 in
theorem implDigest (s : ByteArray) (w : World) (hs : s.size ≤ 140737488355328) :
  Calls Tryz.prog 59 #[.string s] w fun e w' => e = .returned (.int .u64 (dig s.data.toList)) ∧ w = w' := by
 go_enter Tryz.func59, Tryz.ntmps59
 go_wp2
 go_loop [3, 4] (fun x i => ∃ (k : Nat), k ≤ s.size ∧ i = .int .i64 k ∧ x = .int .u64 (dig (s.data.toList.take k))) (fun _ i => s.size - (intOf i).toNat)
 case atStart => exact ⟨0, Nat.zero_le _, rfl, by simp [dig, digStart]⟩
 case round =>
  obtain ⟨k, hk, rfl, rfl⟩ := hrel
  by_cases hlt : k < s.size
  ·have HM : Hid (dig (s.data.toList.take (k + 1)) = digStep (dig (s.data.toList.take k)) s[k]) := dig_more s k hlt
   generalize hy : dig (s.data.toList.take k) = y at *
   clear hy
   go_wp2
   go_round
   case rel => exact ⟨k + 1, by omega, by go_num, by rw [HM.out]; rfl⟩
   case measure => simp [intOf]; omega
  ·have hke : k = s.size := by omega
   subst hke
   rw [dig_all]
   go_wp2
   go_ret
   exact ⟨rfl, rfl⟩
set_option maxHeartbeats 400000 in
theorem specDigest (s : ByteArray) (w : World) (hs : s.size ≤ 140737488355328) :
  Calls Tryz.prog 57 #[.string s] w fun e w' => e = .returned (.int .u64 (dig s.data.toList)) ∧ w = w' := by
 go_enter Tryz.func57, Tryz.ntmps57
 go_wp2
 go_loop [3, 4] (fun x i => ∃ (k : Nat), k ≤ s.size ∧ i = .int .i64 k ∧ x = .int .u64 (dig (s.data.toList.take k))) (fun _ i => s.size - (intOf i).toNat)
 case atStart => exact ⟨0, Nat.zero_le _, rfl, by simp [dig, digStart]⟩
 case round =>
  obtain ⟨k, hk, rfl, rfl⟩ := hrel
  by_cases hlt : k < s.size
  ·have HM : Hid (dig (s.data.toList.take (k + 1)) = digStep (dig (s.data.toList.take k)) s[k]) := dig_more s k hlt
   generalize hy : dig (s.data.toList.take k) = y at *
   clear hy
   go_wp2
   go_round
   case rel => exact ⟨k + 1, by omega, by go_num, by rw [HM.out]; rfl⟩
   case measure => simp [intOf]; omega
  ·have hke : k = s.size := by omega
   subst hke
   rw [dig_all]
   go_wp2
   go_ret
   exact ⟨rfl, rfl⟩
end Go.Proofs.YtbojmbeopnlmiaaGreatDoor
namespace Go.Proofs.YtbojmbeopnlmiaaGreatDoor.Hex
def hd (d : Nat) : UInt8 := UInt8.ofNat (if d < 10 then 48 + d else 87 + d)
def hx : Nat → Nat → List UInt8
 | 0, u => [hd u]
 | f + 1, u => if u < 16 then [hd u] else hx f (u / 16) ++ [hd (u % 16)]
theorem hx_small (f u : Nat) (h : u < 16) : hx f u = [hd u] := by
 cases f with
 | zero => rfl
 | succ f => simp [hx, h]
theorem hx_big (f u : Nat) (h : 16 ≤ u) : hx (f + 1) u = hx f (u / 16) ++ [hd (u % 16)] := by
 rw [hx, if_neg (by omega)]
theorem hx_length (f u : Nat) : 1 ≤ (hx f u).length ∧ (hx f u).length ≤ f + 1 := by
 induction f generalizing u with
 | zero => simp [hx]
 | succ f ih =>
  by_cases h : u < 16
  ·rw [hx_small _ _ h]; simp
  ·rw [hx_big _ _ (by omega)]; have := ih (u / 16); simp; omega
def hf : Nat → Nat → List UInt8
 | 0, _ => []
 | f + 1, u => hf f (u / 16) ++ [hd (u % 16)]
theorem hf_zero (f : Nat) : hf f 0 = List.replicate f 48 := by
 induction f with
 | zero => rfl
 | succ f ih => rw [hf, show 0 / 16 = 0 from rfl, ih, show (0 % 16) = 0 from rfl, List.replicate_succ']; rfl
theorem hf_hx (f u : Nat) (h : u < 16 ^ (f + 1)) : hf (f + 1) u = List.replicate (f + 1 - (hx f u).length) 48 ++ hx f u := by
 induction f generalizing u with
 | zero =>
  have hu : u % 16 = u := by simp at h; omega
  simp [hf, hx, hu]
 | succ f ih =>
  by_cases hs : u < 16
  ·rw [hx_small _ _ hs, hf, show u / 16 = 0 from by omega, hf_zero, show u % 16 = u from by omega]
   simp
  ·rw [hx_big _ _ (by omega), hf, ih (u / 16) (by rw [Nat.pow_succ] at h; exact Nat.div_lt_of_lt_mul (by omega))]
   have := hx_length f (u / 16)
   rw [List.append_assoc, List.length_append, List.length_singleton, show f + 1 + 1 - ((hx f (u / 16)).length + 1) = f + 1 - (hx f (u / 16)).length from by omega]
end Go.Proofs.YtbojmbeopnlmiaaGreatDoor.Hex
namespace Go.Proofs.YtbojmbeopnlmiaaGreatDoor
open Go.RowKit
set_option maxHeartbeats 400000 in
theorem libTrail (w : World) (hc : w.cell? ⟨4, 15, none⟩ = some (.int .u8 4)) :
  Calls Tryz.prog 137 #[.int .u64 16] w fun e w' => e = .returned (.int .i64 4) ∧ w = w' := by
 have e1 : bits BinOp.and IntKind.u64 16 (IntKind.u64.wrap (-16)) = 16 := by decide +kernel
 have e2 : IntKind.u64.wrap (4573923408821661840) = 4573923408821661840 := by decide +kernel
 go_enter Tryz.func137, Tryz.ntmps137
 go_wp2
 go_ret
 exact ⟨rfl, rfl⟩
set_option maxHeartbeats 400000 in
theorem libPow (w : World) :
  Calls Tryz.prog 136 #[.int .i64 16] w fun e w' => e = .returned (.bool true) ∧ w = w' := by
 go_enter Tryz.func136, Tryz.ntmps136
 go_wp2
 go_ret
 exact ⟨rfl, rfl⟩
def zeros65 : Array Value := Array.replicate 65 (.int .u8 0)
def Buf (w : World) (B T : Nat) (l : List UInt8) : Prop :=
 ∃ cur : Array Value, w.heap[B]? = some (.cells cur T (0, 0)) ∧ cur.size = 65 ∧ ∀ j (h : j < l.length), cur[65 - l.length + j]? = some (.int .u8 (l[j].toNat : Int))
theorem buf_start (w : World) (T : Nat) : Buf (w.alloc (.cells zeros65 T)) w.heap.size T [] :=
 ⟨zeros65, heap_alloc_new w _, by simp [zeros65], fun j h => absurd h (by simp)⟩
theorem buf_some {w : World} {B T : Nat} {l : List UInt8} (h : Buf w B T l) (i : Nat) (hi : i < 65) : ∃ u, w.cell? ⟨B, i, none⟩ = some u := by
 obtain ⟨cur, hb, hs, _⟩ := h
 rw [Lib.cell_of_heap hb i]
 exact ⟨_, Array.getElem?_eq_getElem (by omega)⟩
theorem buf_free {w : World} {B T : Nat} {l : List UInt8} (h : Buf w B T l) (i : Nat) : w.frozen? ⟨B, i, none⟩ = false := by
 obtain ⟨cur, hb, hs, _⟩ := h
 exact Lib.frozen_of_heap hb i
theorem buf_put {w : World} {B T : Nat} {l : List UInt8} (h : Buf w B T l) (hl : l.length < 65) (d : UInt8) : Buf (w.setCell ⟨B, 65 - l.length - 1, none⟩ (.int .u8 (d.toNat : Int))) B T (d :: l) := by
 obtain ⟨cur, hb, hs, hc⟩ := h
 refine ⟨cur.setIfInBounds (65 - l.length - 1) (.int .u8 (d.toNat : Int)), by simp [World.setCell, Array.getElem?_modify, hb], by simp [hs], fun j hj => ?_⟩
 cases j with
 | zero =>
  have e : 65 - (d :: l).length + 0 = 65 - l.length - 1 := by simp; omega
  rw [e, Array.getElem?_setIfInBounds_self_of_lt (by omega)]
  rfl
 | succ j =>
  have hj' : j < l.length := by simpa using hj
  have e : 65 - (d :: l).length + (j + 1) = 65 - l.length + j := by simp; omega
  rw [e, Array.getElem?_setIfInBounds_ne (by omega), hc j hj']
  rfl
theorem buf_cell {w : World} {B T : Nat} {l : List UInt8} (h : Buf w B T l) (j : Nat) (hj : j < l.length) : w.cell? ⟨B, 65 - l.length + j, none⟩ = some (.int .u8 (l[j].toNat : Int)) := by
 obtain ⟨cur, hb, hs, hc⟩ := h
 rw [Lib.cell_of_heap hb]
 exact hc j hj
theorem and_fifteen (x : Nat) (h : x < 18446744073709551616) : bits BinOp.and IntKind.u64 (x : Int) 15 = (x : Int) % 16 := by
 have h1 := bits_and_u64_nat x 15 h (by omega)
 rw [show (15 : Nat) = 2 ^ 4 - 1 from rfl, Nat.and_two_pow_sub_one_eq_mod] at h1
 refine h1.trans ?_
 simp
theorem run_hexdigit (d : Nat) (h : d < 16) (wx : World) : (Instr.index 9 (.string ⟨#[48, 49, 50, 51, 52, 53, 54, 55, 56, 57, 97, 98, 99, 100, 101, 102, 103, 104, 105, 106, 107, 108, 109, 110, 111, 112, 113, 114, 115, 116, 117, 118, 119, 120, 121, 122]⟩) (.int .u64 (d : Int))).run Tryz.prog wx = .ok (.int .u8 ((Hex.hd d).toNat : Int)) wx := by
 have hd : d = 0 ∨ d = 1 ∨ d = 2 ∨ d = 3 ∨ d = 4 ∨ d = 5 ∨ d = 6 ∨ d = 7 ∨ d = 8 ∨ d = 9 ∨ d = 10 ∨ d = 11 ∨ d = 12 ∨ d = 13 ∨ d = 14 ∨ d = 15 := by omega
 rcases hd with rfl | rfl | rfl | rfl | rfl | rfl | rfl | rfl | rfl | rfl | rfl | rfl | rfl | rfl | rfl | rfl
 all_goals (show _ = _; kernel_rfl)
set_option maxHeartbeats 400000 in
set_option maxRecDepth 100000 in
theorem libFormat (u : Nat) (w : World) (hu : u < 18446744073709551616) (hc : w.cell? ⟨4, 15, none⟩ = some (.int .u8 4)) :
  Calls Tryz.prog 112 #[.slice none 0 0, .int .u64 u, .int .i64 16, .bool false, .bool false] w fun e w' => e = .returned (.tuple #[.slice none 0 0, .string ⟨(Hex.hx 15 u).toArray⟩]) ∧ Below w.heap.size w w' := by
 have hgl : 4 < w.heap.size := World.block_lt_of_cell? w ⟨4, 15, none⟩ hc
 have hz : ∀ wx : World, (zeroValue 179).run Tryz.prog wx = .ok (.agg zeros65) wx := fun wx => by kernel_rfl
 have hc1 : ∀ o, (w.alloc o).cell? ⟨4, 15, none⟩ = some (.int .u8 4) := fun o => by rw [World.cell?_alloc_past _ _ _ hgl]; exact hc
 have HB := buf_start w 179
 go_enter Tryz.func112, Tryz.ntmps112
 go_wp2_with (first | (go_at_call 136; refine (libPow _).mono ?_; rintro e w1 ⟨rfl, rfl⟩) | (go_at_call 137; refine (libTrail _ (hc1 _)).mono ?_; rintro e w1 ⟨rfl, rfl⟩))
 clear hc hc1 hz
 go_loopw [1, 13] (fun x i wr => ∃ (k f : Nat) (l : List UInt8), x = .int .u64 k ∧ i = .int .i64 (65 - (l.length : Int)) ∧ l.length + f = 15 ∧ k < 16 ^ (f + 1) ∧ k < 18446744073709551616 ∧ Hex.hx f k ++ l = Hex.hx 15 u ∧ Buf wr w.heap.size 179 l ∧ Below w.heap.size w wr) (fun x _ _ => (intOf x).toNat)
 case atStart => exact ⟨u, 15, [], rfl, rfl, rfl, by omega, hu, by simp, HB, (Below.refl _ _).alloc (Nat.le_refl _) _⟩
 case round =>
  obtain ⟨k, f, l, rfl, rfl, hlf, hkf, hk, hhx, hbuf, hbe⟩ := hrel
  have HK : Hid (k < 16 ^ (f + 1)) := hkf
  have HX : Hid (Hex.hx f k ++ l = Hex.hx 15 u) := hhx
  have hll : l.length ≤ 15 := by omega
  clear hkf hhx HB
  obtain ⟨c, hold⟩ := buf_some hbuf (65 - l.length - 1) (by omega)
  have hfz := buf_free hbuf (65 - l.length - 1)
  by_cases hlt : 16 ≤ k
  ·obtain ⟨f, rfl⟩ : ∃ q, f = q + 1 := by
    cases f with
    | zero => have := HK.out; simp at this; omega
    | succ q => exact ⟨q, rfl⟩
   have HK2 : Hid (k / 16 < 16 ^ (f + 1)) := by
    have h2 : k < 16 ^ (f + 1 + 1) := HK.out
    rw [Nat.pow_succ] at h2
    exact Nat.div_lt_of_lt_mul (by omega)
   have HX2 : Hid (Hex.hx f (k / 16) ++ (Hex.hd (k % 16) :: l) = Hex.hx 15 u) := by
    have h2 : Hex.hx (f + 1) k ++ l = Hex.hx 15 u := HX.out
    rw [Hex.hx_big f k hlt, List.append_assoc] at h2
    exact h2
   have hand := and_fifteen k hk
   have hdig := run_hexdigit (k % 16) (by omega)
   rw [show (((k % 16 : Nat)) : Int) = (k : Int) % 16 from by omega] at hdig
   have R1 := buf_put hbuf (by omega) (Hex.hd (k % 16))
   have R2 : Below w.heap.size w (wr.setCell ⟨w.heap.size, 65 - l.length - 1, none⟩ (.int .u8 ((Hex.hd (k % 16)).toNat : Int))) := hbe.setCell (Nat.le_refl _) _
   generalize Hex.hd (k % 16) = D at *
   go_wp2
   go_roundw
   case rel => exact ⟨k / 16, f, D :: l, by go_num, by simp; omega, by simp; omega, HK2.out, by omega, HX2.out, R1, R2⟩
   case measure => simp [intOf]; omega
  ·have HX2 : Hid (Hex.hd k :: l = Hex.hx 15 u) := by
    have h2 : Hex.hx f k ++ l = Hex.hx 15 u := HX.out
    rw [Hex.hx_small f k (by omega)] at h2
    exact h2
   have hdig := run_hexdigit k (by omega)
   have R1 := buf_put hbuf (by omega) (Hex.hd k)
   have R2 : Below w.heap.size w (wr.setCell ⟨w.heap.size, 65 - l.length - 1, none⟩ (.int .u8 ((Hex.hd k).toNat : Int))) := hbe.setCell (Nat.le_refl _) _
   generalize Hex.hd k = D at *
   have hsl : ∀ W, (Instr.sliceAt 179 (.pointer (some ⟨w.heap.size, 0, none⟩)) (some (.int .i64 (65 - (l.length : Int) - 1))) none none).run Tryz.prog W = .ok (.slice (some ⟨w.heap.size, 65 - l.length - 1, none⟩) (D :: l).length (D :: l).length) W := fun W => by
    have hal : Tryz.prog.arrayLen 179 = 65 := by kernel_rfl
    rw [run_sliceAt_array_l W 179 ⟨w.heap.size, 0, none⟩ (by kernel_rfl) .i64 (65 - (l.length : Int) - 1) (by omega) (by rw [hal]; omega), hal]
    have hel : (Go.sizeOf (Tryz.prog.elem 179)).run Tryz.prog W = .ok 1 W := by kernel_rfl
    rw [hel]
    have e1 : (65 - (l.length : Int) - 1).toNat = 65 - l.length - 1 := by omega
    have e2 : (D :: l).length = 65 - (65 - l.length - 1) := by simp; omega
    rw [e1, e2]
    simp [Result.andThen, slicedAt, Addr.add]
    rw [if_neg (by omega), if_neg (by omega)]
   have hcv : (convert 51 9 (.slice (some ⟨w.heap.size, 65 - l.length - 1, none⟩) (D :: l).length (D :: l).length)).run Tryz.prog (wr.setCell ⟨w.heap.size, 65 - l.length - 1, none⟩ (.int .u8 (D.toNat : Int))) = .ok (.string ⟨(D :: l).toArray⟩) (wr.setCell ⟨w.heap.size, 65 - l.length - 1, none⟩ (.int .u8 (D.toNat : Int))) :=
    run_convert_bytes_back (P := Tryz.prog) _ 51 9 5 ⟨w.heap.size, 65 - l.length - 1, none⟩ (D :: l).length (D :: l) Tryz.underlying51 Tryz.underlying5 Tryz.underlying9 (fun j hj => by
     rw [Addr.add_lit]
     have := buf_cell R1 j hj
     rw [show 65 - (D :: l).length + j = 65 - l.length - 1 + j from by simp; omega] at this
     exact this)
   rw [HX2.out] at hsl hcv
   clear hbuf R1
   generalize (Hex.hx 15 u).length = n at *
   go_wp2
   go_ret2
   exact ⟨rfl, R2⟩
set_option maxHeartbeats 400000 in
theorem innerFormatUint (u : Nat) (w : World) (hu : u < 18446744073709551616) (hc : w.cell? ⟨4, 15, none⟩ = some (.int .u8 4)) :
  Calls Tryz.prog 86 #[.int .u64 u, .int .i64 16] w fun e w' => e = .returned (.string ⟨(Hex.hx 15 u).toArray⟩) ∧ Below w.heap.size w w' := by
 have HF : Hid (Calls Tryz.prog 112 #[.slice none 0 0, .int .u64 u, .int .i64 16, .bool false, .bool false] w fun e w' => e = .returned (.tuple #[.slice none 0 0, .string ⟨(Hex.hx 15 u).toArray⟩]) ∧ Below w.heap.size w w') := libFormat u w hu hc
 clear hc
 generalize (⟨(Hex.hx 15 u).toArray⟩ : ByteArray) = V at *
 go_enter Tryz.func86, Tryz.ntmps86
 go_wp2_with (go_at_call 112; refine HF.out.mono ?_; rintro e w1 ⟨rfl, hb⟩)
 go_ret
 exact ⟨rfl, hb⟩
set_option maxHeartbeats 400000 in
theorem libFormatUint (u : Nat) (w : World) (hu : u < 18446744073709551616) (hc : w.cell? ⟨4, 15, none⟩ = some (.int .u8 4)) :
  Calls Tryz.prog 58 #[.int .u64 u, .int .i64 16] w fun e w' => e = .returned (.string ⟨(Hex.hx 15 u).toArray⟩) ∧ Below w.heap.size w w' := by
 have HF : Hid (Calls Tryz.prog 86 #[.int .u64 u, .int .i64 16] w fun e w' => e = .returned (.string ⟨(Hex.hx 15 u).toArray⟩) ∧ Below w.heap.size w w') := innerFormatUint u w hu hc
 clear hc
 generalize (⟨(Hex.hx 15 u).toArray⟩ : ByteArray) = V at *
 go_enter Tryz.func58, Tryz.ntmps58
 go_wp2_with (go_at_call 86; refine HF.out.mono ?_; rintro e w1 ⟨rfl, hb⟩)
 go_ret
 exact ⟨rfl, hb⟩
end Go.Proofs.YtbojmbeopnlmiaaGreatDoor
namespace Go.Proofs
open Go.Shelf
def Tryz.lays105_ren : Go.Shelf.Ren := ⟨fun | 105 => 61 | 212 => 90 | 99 => 91 | 165 => 87 | 166 => 88 | 170 => 92 | 169 => 89 | 263 => 115 | 264 => 116 | 206 => 117 | 240 => 113 | 241 => 114 | 276 => 138 | 277 => 139 | n => n, fun | 9 => 9 | 3 => 3 | 4 => 4 | 20 => 20 | 0 => 0 | 46 => 125 | 109 => 126 | 5 => 5 | 72 => 118 | 76 => 122 | 51 => 154 | 146 => 155 | 53 => 82 | 148 => 157 | 70 => 116 | 37 => 51 | 75 => 121 | 127 => 153 | 164 => 182 | 80 => 124 | n => n, fun | n => n⟩
theorem Tryz.lays105 : Go.Proofs.Lays.n105 Tryz.prog Tryz.lays105_ren := {
 mixed := by kernel_rfl
 f99 := Tryz.func91.trans (congrArg some (by kernel_rfl))
 f105 := Tryz.func61.trans (congrArg some (by kernel_rfl))
 f165 := Tryz.func87.trans (congrArg some (by kernel_rfl))
 f166 := Tryz.func88.trans (congrArg some (by kernel_rfl))
 f169 := Tryz.func89.trans (congrArg some (by kernel_rfl))
 f170 := Tryz.func92.trans (congrArg some (by kernel_rfl))
 f206 := Tryz.func117.trans (congrArg some (by kernel_rfl))
 f212 := Tryz.func90.trans (congrArg some (by kernel_rfl))
 f240 := Tryz.func113.trans (congrArg some (by kernel_rfl))
 f241 := Tryz.func114.trans (congrArg some (by kernel_rfl))
 f263 := Tryz.func115.trans (congrArg some (by kernel_rfl))
 f264 := Tryz.func116.trans (congrArg some (by kernel_rfl))
 f276 := Tryz.func138.trans (congrArg some (by kernel_rfl))
 f277 := Tryz.func139.trans (congrArg some (by kernel_rfl))
 t0 := Tryz.underlying0
 a0 := Tryz.isAgg0
 z0 := Tryz.sizeOf0
 v0 := Tryz.zeroValue0
 t3 := Tryz.underlying3
 a3 := Tryz.isAgg3
 z3 := Tryz.sizeOf3
 v3 := Tryz.zeroValue3
 t4 := Tryz.underlying4
 a4 := Tryz.isAgg4
 z4 := Tryz.sizeOf4
 v4 := Tryz.zeroValue4
 t5 := Tryz.underlying5
 a5 := Tryz.isAgg5
 z5 := Tryz.sizeOf5
 v5 := Tryz.zeroValue5
 t9 := Tryz.underlying9
 a9 := Tryz.isAgg9
 z9 := Tryz.sizeOf9
 v9 := Tryz.zeroValue9
 t20 := Tryz.underlying20
 a20 := Tryz.isAgg20
 z20 := Tryz.sizeOf20
 v20 := Tryz.zeroValue20
 t37 := Tryz.underlying51
 a37 := Tryz.isAgg51
 z37 := Tryz.sizeOf51
 v37 := Tryz.zeroValue51
 t46 := Tryz.underlying125
 a46 := Tryz.isAgg125
 z46 := Tryz.sizeOf125
 v46 := Tryz.zeroValue125
 t51 := Tryz.underlying154
 a51 := Tryz.isAgg154
 z51 := Tryz.sizeOf154
 v51 := Tryz.zeroValue154
 t53 := Tryz.underlying82
 a53 := Tryz.isAgg82
 z53 := Tryz.sizeOf82
 v53 := Tryz.zeroValue82
 t70 := Tryz.underlying116
 a70 := Tryz.isAgg116
 z70 := Tryz.sizeOf116
 v70 := Tryz.zeroValue116
 t72 := Tryz.underlying118
 a72 := Tryz.isAgg118
 z72 := Tryz.sizeOf118
 v72 := Tryz.zeroValue118
 t75 := Tryz.underlying121
 a75 := Tryz.isAgg121
 z75 := Tryz.sizeOf121
 v75 := Tryz.zeroValue121
 t76 := Tryz.underlying122
 a76 := Tryz.isAgg122
 z76 := Tryz.sizeOf122
 v76 := Tryz.zeroValue122
 t109 := Tryz.underlying126
 a109 := Tryz.isAgg126
 z109 := Tryz.sizeOf126
 v109 := Tryz.zeroValue126
 t127 := Tryz.underlying153
 a127 := Tryz.isAgg153
 z127 := Tryz.sizeOf153
 v127 := Tryz.zeroValue153
 t146 := Tryz.underlying155
 a146 := Tryz.isAgg155
 z146 := Tryz.sizeOf155
 v146 := Tryz.zeroValue155
 t148 := Tryz.underlying157
 a148 := Tryz.isAgg157
 z148 := Tryz.sizeOf157
 v148 := Tryz.zeroValue157
 t164 := Tryz.underlying182
 a164 := Tryz.isAgg182
 z164 := Tryz.sizeOf182
 v164 := Tryz.zeroValue182 }
theorem Tryz.Builder_Extra_105 : Builder.Extra Tryz.prog Tryz.lays105_ren := {
 sizeBuilder := by kernel_rfl
 liesBuilder := by kernel_rfl
 t5 := Tryz.underlying5
 a5 := Tryz.isAgg5
 z5 := Tryz.sizeOf5
 v5 := Tryz.zeroValue5
 infoByte := by kernel_rfl
 cellsByte := by kernel_rfl
 sizeByte := by kernel_rfl
 neB5 := by decide }
open Go.RowKit Go.Lib in
theorem Tryz.strings_Repeat (s : ByteArray) (c : Nat) (w : World) (hc : c ≤ 9223372036854775807) (hlen : s.size * c ≤ 140737488355328) :
  Calls Tryz.prog 61 #[.string s, .int .i64 c] w fun e w' => e = .returned (.string ⟨(Lib.repeatL s.data.toList c).toArray⟩) ∧ Below w.heap.size w w' := Any.strings_Repeat Tryz.lays105 Tryz.Builder_Extra_105 s c w hc hlen
end Go.Proofs
namespace Go.Proofs.YtbojmbeopnlmiaaGreatDoor
open Go.RowKit
theorem dig_range (l : List UInt8) : 0 ≤ dig l ∧ dig l ≤ 18446744073709551615 := by
 suffices h : ∀ (l : List UInt8) (y : Int), (0 ≤ y ∧ y ≤ 18446744073709551615) → 0 ≤ l.foldl digStep y ∧ l.foldl digStep y ≤ 18446744073709551615 from h l digStart (by decide)
 intro l
 induction l with
 | nil => intro y h; exact h
 | cons b r ih =>
  intro y h
  exact ih _ (by unfold digStep; rw [IntKind.wrap_u64]; omega)
def keyB (s : ByteArray) : ByteArray := ⟨(Hex.hf 16 (dig s.data.toList).toNat).toArray⟩
def digits16 : ByteArray := ⟨#[48, 49, 50, 51, 52, 53, 54, 55, 56, 57, 97, 98, 99, 100, 101, 102]⟩
theorem digit16_at (d : Nat) (h : d < 16) : digits16.extract d (d + 1) = ⟨[Hex.hd d].toArray⟩ := by
 have hd : d = 0 ∨ d = 1 ∨ d = 2 ∨ d = 3 ∨ d = 4 ∨ d = 5 ∨ d = 6 ∨ d = 7 ∨ d = 8 ∨ d = 9 ∨ d = 10 ∨ d = 11 ∨ d = 12 ∨ d = 13 ∨ d = 14 ∨ d = 15 := by omega
 rcases hd with rfl | rfl | rfl | rfl | rfl | rfl | rfl | rfl | rfl | rfl | rfl | rfl | rfl | rfl | rfl | rfl
 all_goals rfl
theorem run_digit16 (d : Nat) (h : d < 16) (wx : World) : (Instr.slice 9 (.string ⟨#[48, 49, 50, 51, 52, 53, 54, 55, 56, 57, 97, 98, 99, 100, 101, 102]⟩) (some (.int .i64 (d : Int))) (some (.int .i64 ((d : Int) + 1))) none).run Tryz.prog wx = .ok (.string ⟨[Hex.hd d].toArray⟩) wx := by
 have := run_slice_string (P := Tryz.prog) wx 9 digits16 .i64 .i64 (d : Int) ((d : Int) + 1) Tryz.underlying9 (by omega) (by omega) (by simp [digits16, ByteArray.size]; omega)
 rw [show ((d : Int)).toNat = d from Int.toNat_natCast d, show ((d : Int) + 1).toNat = d + 1 from by omega, digit16_at d h] at this
 exact this
theorem key_cons (a : UInt8) (l : List UInt8) : (⟨[a].toArray⟩ : ByteArray) ++ ⟨l.toArray⟩ = ⟨(a :: l).toArray⟩ := by
 apply ByteArray.ext
 simp
set_option maxHeartbeats 400000 in
theorem specKey (s : ByteArray) (w : World) (hs : s.size ≤ 140737488355328) :
  Calls Tryz.prog 36 #[.string s] w fun e w' => e = .returned (.string (keyB s)) ∧ w = w' := by
 have hr := dig_range s.data.toList
 have HD : Hid (∀ wx : World, Calls Tryz.prog 57 #[.string s] wx fun e w' => e = .returned (.int .u64 (dig s.data.toList)) ∧ wx = w') := fun wx => specDigest s wx hs
 unfold keyB
 generalize dig s.data.toList = y at *
 obtain ⟨u, rfl⟩ := Int.eq_ofNat_of_zero_le hr.1
 rw [Int.toNat_natCast]
 have hu := hr.2
 clear hr
 go_enter Tryz.func36, Tryz.ntmps36
 go_wp2_with (go_at_call 57; refine (HD.out _).mono ?_; rintro e w1 ⟨rfl, rfl⟩)
 go_loop [3, 4, 5] (fun x o i => ∃ (k f : Nat) (l : List UInt8), x = .int .u64 k ∧ k ≤ u ∧ i = .int .i64 (l.length : Nat) ∧ o = .string ⟨l.toArray⟩ ∧ l.length + f = 16 ∧ Hex.hf f k ++ l = Hex.hf 16 u) (fun _ _ i => 16 - (intOf i).toNat)
 case atStart => exact ⟨u, 16, [], rfl, Nat.le_refl _, rfl, rfl, rfl, by simp⟩
 case round =>
  obtain ⟨k, f, l, rfl, hk, rfl, rfl, hl, hh⟩ := hrel
  have HH : Hid (Hex.hf f k ++ l = Hex.hf 16 u) := hh
  clear hh
  have hsz : (⟨l.toArray⟩ : ByteArray).size ≤ 16 := by simp [ByteArray.size]; omega
  by_cases hlt : l.length < 16
  ·obtain ⟨f, rfl⟩ : ∃ q, f = q + 1 := ⟨f - 1, by omega⟩
   have HH2 : Hid (Hex.hf f (k / 16) ++ (Hex.hd (k % 16) :: l) = Hex.hf 16 u) := by
    have h2 : Hex.hf (f + 1) k ++ l = Hex.hf 16 u := HH.out
    rw [Hex.hf, List.append_assoc] at h2
    exact h2
   have hsl := run_digit16 (k % 16) (by omega)
   rw [show (((k % 16 : Nat)) : Int) = (k : Int) % 16 from by omega] at hsl
   have HS : Hid ((⟨[Hex.hd (k % 16)].toArray⟩ : ByteArray) ++ ⟨l.toArray⟩ = ⟨(Hex.hd (k % 16) :: l).toArray⟩) := key_cons _ _
   have hV1 : (⟨[Hex.hd (k % 16)].toArray⟩ : ByteArray).size ≤ 1 := by simp [ByteArray.size]
   generalize (⟨[Hex.hd (k % 16)].toArray⟩ : ByteArray) = V at *
   generalize hOe : (⟨l.toArray⟩ : ByteArray) = O at *
   clear hOe
   go_wp2
   go_round
   case rel => exact ⟨k / 16, f, Hex.hd (k % 16) :: l, by go_num, by omega, by simp, by rw [HS.out], by simp; omega, HH2.out⟩
   case measure => simp [intOf]; omega
  ·have hf0 : f = 0 := by omega
   subst hf0
   have HE : Hid (l = Hex.hf 16 u) := HH.out
   generalize hOe : (⟨l.toArray⟩ : ByteArray) = O at *
   have HO : Hid ((⟨l.toArray⟩ : ByteArray) = O) := hOe
   clear hOe
   go_wp2
   go_ret
   exact ⟨by rw [← HE.out, HO.out]; rfl, rfl⟩
theorem repeatL_nought (c : Nat) : Lib.repeatL [48] c = List.replicate c 48 := by
 induction c with
 | zero => rfl
 | succ c ih => rw [Lib.repeatL, ih, List.replicate_succ]; rfl
theorem key_two (a b : List UInt8) : (⟨(catL [⟨a.toArray⟩, ⟨b.toArray⟩]).toArray⟩ : ByteArray) = ⟨(a ++ b).toArray⟩ := by
 apply ByteArray.ext
 simp [catL]
theorem key_cells (w : World) (a b : ByteArray) : ∀ j (h : j < [a, b].length), (w.alloc (Obj.cells #[Value.string a, Value.string b] 9)).cell? ⟨w.heap.size, 0 + j, none⟩ = some (.string [a, b][j]) := by
 intro j h
 match j, h with
 | 0, _ => simp
 | 1, _ => simp
set_option maxHeartbeats 400000 in
theorem implKey (s : ByteArray) (w : World) (hs : s.size ≤ 140737488355328) (hc : w.cell? ⟨4, 15, none⟩ = some (.int .u8 4)) :
  Calls Tryz.prog 37 #[.string s] w fun e w' => e = .returned (.string (keyB s)) ∧ Below w.heap.size w w' := by
 have hr := dig_range s.data.toList
 have HD : Hid (∀ wx : World, Calls Tryz.prog 59 #[.string s] wx fun e w' => e = .returned (.int .u64 (dig s.data.toList)) ∧ wx = w') := fun wx => implDigest s wx hs
 unfold keyB
 generalize dig s.data.toList = y at *
 obtain ⟨u, rfl⟩ := Int.eq_ofNat_of_zero_le hr.1
 rw [Int.toNat_natCast]
 have hu := hr.2
 clear hr
 have hlen := Hex.hx_length 15 u
 have hpad := Hex.hf_hx 15 u (by omega)
 have HF : Hid (Calls Tryz.prog 58 #[.int .u64 u, .int .i64 16] w fun e w' => e = .returned (.string ⟨(Hex.hx 15 u).toArray⟩) ∧ Below w.heap.size w w') := libFormatUint u w (by omega) hc
 generalize Hex.hx 15 u = L at *
 have hLs : (⟨L.toArray⟩ : ByteArray).size = L.length := by simp [ByteArray.size]
 have HP : Hid (Hex.hf 16 u = List.replicate (16 - L.length) 48 ++ L) := hpad
 have HR : Hid (∀ wx : World, Calls Tryz.prog 61 #[.string ⟨#[48]⟩, .int .i64 (16 - (L.length : Int))] wx fun e w' => e = .returned (.string ⟨(List.replicate (16 - L.length) 48).toArray⟩) ∧ Below wx.heap.size wx w') := fun wx => by
  have := Tryz.strings_Repeat ⟨#[48]⟩ (16 - L.length) wx (by omega) (by simp [ByteArray.size]; omega)
  rw [show (((16 - L.length : Nat)) : Int) = 16 - (L.length : Int) from by omega, repeatL_nought] at this
  exact this
 clear hpad hc
 go_enter Tryz.func37, Tryz.ntmps37
 go_wp2_with fail
 refine (HD.out _).mono ?_
 rintro e w1 ⟨rfl, rfl⟩
 go_wp2_with fail
 refine HF.out.mono ?_
 rintro e w1 ⟨rfl, hb1⟩
 go_wp2_with fail
 refine (HR.out _).mono ?_
 rintro e w2 ⟨rfl, hb2⟩
 have hbe : Below w.heap.size w w2 := hb1.trans (hb2.mono hb1.size)
 have HJ : Hid (Calls Tryz.prog 60 #[.slice (some ⟨w2.heap.size, 0, none⟩) 2 2] (w2.alloc (Obj.cells #[Value.string ⟨(List.replicate (16 - L.length) 48).toArray⟩, Value.string ⟨L.toArray⟩] 9)) fun e w' => e = .returned (.string ⟨(Hex.hf 16 u).toArray⟩) ∧ Below (w2.alloc (Obj.cells #[Value.string ⟨(List.replicate (16 - L.length) 48).toArray⟩, Value.string ⟨L.toArray⟩] 9)).heap.size (w2.alloc (Obj.cells #[Value.string ⟨(List.replicate (16 - L.length) 48).toArray⟩, Value.string ⟨L.toArray⟩] 9)) w') := by
  have := implJoin w2.heap.size 0 2 [⟨(List.replicate (16 - L.length) 48).toArray⟩, ⟨L.toArray⟩] _ (key_cells w2 _ _) (by simp [catL]; omega) (by simp)
  rw [key_two, ← HP.out] at this
  exact this
 clear hb1 hb2 HR HF HP
 go_wp2_with fail
 refine HJ.out.mono ?_
 rintro e w3 ⟨rfl, hb3⟩
 have hfin : Below w.heap.size w w3 := (hbe.alloc hbe.size _).trans (hb3.mono (by have := hbe.size; simp; omega))
 clear HJ hb3
 go_wp2
 go_ret
 exact ⟨rfl, hfin⟩
end Go.Proofs.YtbojmbeopnlmiaaGreatDoor

/-
  The walks of spec.Key and impl.Key: each answers the sum as sixteen hexadecimal digits.
-/
import Derived.Test.YtoebfpdalkpkdaaDoorDigestW
import Derived.Test.YtoebfpdalkpkdaaDoorHexW
import Derived.Test.YtoebfpdalkpkdaaDoorJoinW
import Derived.Test.YtoebfpdalkpkdaaDoorRepeatLib
namespace Go.Proofs.YtoebfpdalkpkdaaDoor
open Go.RowKit

theorem dig_range (l : List UInt8) : 0 ≤ dig l ∧ dig l ≤ 18446744073709551615 := by
  suffices h : ∀ (l : List UInt8) (y : Int), (0 ≤ y ∧ y ≤ 18446744073709551615) → 0 ≤ l.foldl digStep y ∧ l.foldl digStep y ≤ 18446744073709551615 from h l digStart (by decide)
  intro l
  induction l with
  | nil => intro y h; exact h
  | cons b r ih =>
    intro y h
    exact ih _ (by unfold digStep; rw [IntKind.wrap_u64]; omega)

/-- Key's answer -/
def keyB (s : ByteArray) : ByteArray := ⟨(Hex.hf 16 (dig s.data.toList).toNat).toArray⟩

def digits16 : ByteArray := ⟨#[48, 49, 50, 51, 52, 53, 54, 55, 56, 57, 97, 98, 99, 100, 101, 102]⟩
theorem digit16_at (d : Nat) (h : d < 16) : digits16.extract d (d + 1) = ⟨[Hex.hd d].toArray⟩ := by
  have hd : d = 0 ∨ d = 1 ∨ d = 2 ∨ d = 3 ∨ d = 4 ∨ d = 5 ∨ d = 6 ∨ d = 7 ∨ d = 8 ∨ d = 9 ∨ d = 10 ∨ d = 11 ∨ d = 12 ∨ d = 13 ∨ d = 14 ∨ d = 15 := by omega
  rcases hd with rfl | rfl | rfl | rfl | rfl | rfl | rfl | rfl | rfl | rfl | rfl | rfl | rfl | rfl | rfl | rfl
  all_goals rfl

theorem run_digit16 (d : Nat) (h : d < 16) (wx : World) : (Instr.slice 9 (.string ⟨#[48, 49, 50, 51, 52, 53, 54, 55, 56, 57, 97, 98, 99, 100, 101, 102]⟩) (some (.int .i64 (d : Int))) (some (.int .i64 ((d : Int) + 1))) none).run Tryd.prog wx = .ok (.string ⟨[Hex.hd d].toArray⟩) wx := by
  have := run_slice_string (P := Tryd.prog) wx 9 digits16 .i64 .i64 (d : Int) ((d : Int) + 1) Tryd.underlying9 (by omega) (by omega) (by simp [digits16, ByteArray.size]; omega)
  rw [show ((d : Int)).toNat = d from Int.toNat_natCast d, show ((d : Int) + 1).toNat = d + 1 from by omega, digit16_at d h] at this
  exact this

theorem key_cons (a : UInt8) (l : List UInt8) : (⟨[a].toArray⟩ : ByteArray) ++ ⟨l.toArray⟩ = ⟨(a :: l).toArray⟩ := by
  apply ByteArray.ext
  simp

set_option maxHeartbeats 400000 in
theorem specKey (s : ByteArray) (w : World) (hs : s.size ≤ 140737488355328) :
    Calls Tryd.prog 27 #[.string s] w fun e w' => e = .returned (.string (keyB s)) ∧ w = w' := by
  have hr := dig_range s.data.toList
  have HD : Hid (∀ wx : World, Calls Tryd.prog 48 #[.string s] wx fun e w' => e = .returned (.int .u64 (dig s.data.toList)) ∧ wx = w') := fun wx => specDigest s wx hs
  unfold keyB
  generalize dig s.data.toList = y at *
  obtain ⟨u, rfl⟩ := Int.eq_ofNat_of_zero_le hr.1
  rw [Int.toNat_natCast]
  have hu := hr.2
  clear hr
  go_enter Tryd.func27, Tryd.ntmps27
  go_wp2_with (go_at_call 48; refine (HD.out _).mono ?_; rintro e w1 ⟨rfl, rfl⟩)
  go_loop [3, 4, 5] (fun x o i => ∃ (k f : Nat) (l : List UInt8), x = .int .u64 k ∧ k ≤ u ∧ i = .int .i64 (l.length : Nat) ∧ o = .string ⟨l.toArray⟩ ∧ l.length + f = 16 ∧ Hex.hf f k ++ l = Hex.hf 16 u) (fun _ _ i => 16 - (intOf i).toNat)
  case atStart => exact ⟨u, 16, [], rfl, Nat.le_refl _, rfl, rfl, rfl, by simp⟩
  case round =>
    obtain ⟨k, f, l, rfl, hk, rfl, rfl, hl, hh⟩ := hrel
    have HH : Hid (Hex.hf f k ++ l = Hex.hf 16 u) := hh
    clear hh
    have hsz : (⟨l.toArray⟩ : ByteArray).size ≤ 16 := by simp [ByteArray.size]; omega
    by_cases hlt : l.length < 16
    · obtain ⟨f, rfl⟩ : ∃ q, f = q + 1 := ⟨f - 1, by omega⟩
      have HH2 : Hid (Hex.hf f (k / 16) ++ (Hex.hd (k % 16) :: l) = Hex.hf 16 u) := by
        have h2 : Hex.hf (f + 1) k ++ l = Hex.hf 16 u := HH.out
        rw [Hex.hf, List.append_assoc] at h2
        exact h2
      have hsl := run_digit16 (k % 16) (by omega)
      rw [show (((k % 16 : Nat)) : Int) = (k : Int) % 16 from by omega] at hsl
      have HS : Hid ((⟨[Hex.hd (k % 16)].toArray⟩ : ByteArray) ++ ⟨l.toArray⟩ = ⟨(Hex.hd (k % 16) :: l).toArray⟩) := key_cons _ _
      have hV1 : (⟨[Hex.hd (k % 16)].toArray⟩ : ByteArray).size ≤ 1 := by simp [ByteArray.size]
      generalize (⟨[Hex.hd (k % 16)].toArray⟩ : ByteArray) = V at *
      generalize hOe : (⟨l.toArray⟩ : ByteArray) = O at *
      clear hOe
      go_wp2
      go_round
      case rel => exact ⟨k / 16, f, Hex.hd (k % 16) :: l, by go_num, by omega, by simp, by rw [HS.out], by simp; omega, HH2.out⟩
      case measure => simp [intOf]; omega
    · have hf0 : f = 0 := by omega
      subst hf0
      have HE : Hid (l = Hex.hf 16 u) := HH.out
      generalize hOe : (⟨l.toArray⟩ : ByteArray) = O at *
      have HO : Hid ((⟨l.toArray⟩ : ByteArray) = O) := hOe
      clear hOe
      go_wp2
      go_ret
      exact ⟨by rw [← HE.out, HO.out]; rfl, rfl⟩

theorem repeatL_nought (c : Nat) : Lib.repeatL [48] c = List.replicate c 48 := by
  induction c with
  | zero => rfl
  | succ c ih => rw [Lib.repeatL, ih, List.replicate_succ]; rfl

theorem key_two (a b : List UInt8) : (⟨(catL [⟨a.toArray⟩, ⟨b.toArray⟩]).toArray⟩ : ByteArray) = ⟨(a ++ b).toArray⟩ := by
  apply ByteArray.ext
  simp [catL]

theorem key_cells (w : World) (a b : ByteArray) : ∀ j (h : j < [a, b].length), (w.alloc (Obj.cells #[Value.string a, Value.string b] 9)).cell? ⟨w.heap.size, 0 + j, none⟩ = some (.string [a, b][j]) := by
  intro j h
  match j, h with
  | 0, _ => simp
  | 1, _ => simp

set_option maxHeartbeats 400000 in
theorem implKey (s : ByteArray) (w : World) (hs : s.size ≤ 140737488355328) (hc : w.cell? ⟨3, 15, none⟩ = some (.int .u8 4)) :
    Calls Tryd.prog 36 #[.string s] w fun e w' => e = .returned (.string (keyB s)) ∧ Below w.heap.size w w' := by
  have hr := dig_range s.data.toList
  have HD : Hid (∀ wx : World, Calls Tryd.prog 59 #[.string s] wx fun e w' => e = .returned (.int .u64 (dig s.data.toList)) ∧ wx = w') := fun wx => implDigest s wx hs
  unfold keyB
  generalize dig s.data.toList = y at *
  obtain ⟨u, rfl⟩ := Int.eq_ofNat_of_zero_le hr.1
  rw [Int.toNat_natCast]
  have hu := hr.2
  clear hr
  have hlen := Hex.hx_length 15 u
  have hpad := Hex.hf_hx 15 u (by omega)
  have HF : Hid (Calls Tryd.prog 58 #[.int .u64 u, .int .i64 16] w fun e w' => e = .returned (.string ⟨(Hex.hx 15 u).toArray⟩) ∧ Below w.heap.size w w') := libFormatUint u w (by omega) hc
  generalize Hex.hx 15 u = L at *
  have hLs : (⟨L.toArray⟩ : ByteArray).size = L.length := by simp [ByteArray.size]
  have HP : Hid (Hex.hf 16 u = List.replicate (16 - L.length) 48 ++ L) := hpad
  have HR : Hid (∀ wx : World, Calls Tryd.prog 61 #[.string ⟨#[48]⟩, .int .i64 (16 - (L.length : Int))] wx fun e w' => e = .returned (.string ⟨(List.replicate (16 - L.length) 48).toArray⟩) ∧ Below wx.heap.size wx w') := fun wx => by
    have := Tryd.strings_Repeat ⟨#[48]⟩ (16 - L.length) wx (by omega) (by simp [ByteArray.size]; omega)
    rw [show (((16 - L.length : Nat)) : Int) = 16 - (L.length : Int) from by omega, repeatL_nought] at this
    exact this
  clear hpad hc
  go_enter Tryd.func36, Tryd.ntmps36
  go_wp2_with fail
  refine (HD.out _).mono ?_
  rintro e w1 ⟨rfl, rfl⟩
  go_wp2_with fail
  refine HF.out.mono ?_
  rintro e w1 ⟨rfl, hb1⟩
  go_wp2_with fail
  refine (HR.out _).mono ?_
  rintro e w2 ⟨rfl, hb2⟩
  have hbe : Below w.heap.size w w2 := hb1.trans (hb2.mono hb1.size)
  have HJ : Hid (Calls Tryd.prog 60 #[.slice (some ⟨w2.heap.size, 0, none⟩) 2 2] (w2.alloc (Obj.cells #[Value.string ⟨(List.replicate (16 - L.length) 48).toArray⟩, Value.string ⟨L.toArray⟩] 9)) fun e w' => e = .returned (.string ⟨(Hex.hf 16 u).toArray⟩) ∧ Below (w2.alloc (Obj.cells #[Value.string ⟨(List.replicate (16 - L.length) 48).toArray⟩, Value.string ⟨L.toArray⟩] 9)).heap.size (w2.alloc (Obj.cells #[Value.string ⟨(List.replicate (16 - L.length) 48).toArray⟩, Value.string ⟨L.toArray⟩] 9)) w') := by
    have := implJoin w2.heap.size 0 2 [⟨(List.replicate (16 - L.length) 48).toArray⟩, ⟨L.toArray⟩] _ (key_cells w2 _ _) (by simp [catL]; omega) (by simp)
    rw [key_two, ← HP.out] at this
    exact this
  clear hb1 hb2 HR HF HP
  go_wp2_with fail
  refine HJ.out.mono ?_
  rintro e w3 ⟨rfl, hb3⟩
  have hfin : Below w.heap.size w w3 := (hbe.alloc hbe.size _).trans (hb3.mono (by have := hbe.size; simp; omega))
  clear HJ hb3
  go_wp2
  go_ret
  exact ⟨rfl, hfin⟩

end Go.Proofs.YtoebfpdalkpkdaaDoor

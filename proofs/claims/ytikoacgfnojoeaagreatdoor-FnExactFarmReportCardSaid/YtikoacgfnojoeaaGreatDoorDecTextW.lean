/-
  The walk of spec.DecText: it answers the decimal numeral.
-/
import Derived.Test.YtikoacgfnojoeaaGreatDoorRows
import Derived.WalkKit
import Derived.WalkSpells
import Derived.WalkLawsBesides
import Derived.Lib.ItoaNum
namespace Go.Proofs.YtikoacgfnojoeaaGreatDoor
open Go.RowKit

/-- the digits of what is left -/
def ddL (k : Nat) : List UInt8 := if k = 0 then [] else Lib.decDigits k
theorem ddL_more (k : Nat) (h : 0 < k) : ddL k = ddL (k / 10) ++ [UInt8.ofNat (48 + k % 10)] := by
  rw [show ddL k = Lib.decDigits k from if_neg (by omega)]
  by_cases h10 : k < 10
  · rw [Lib.decDigits_one h10, show ddL (k / 10) = [] from if_pos (by omega), show k % 10 = k from by omega]
    rfl
  · rw [Lib.decDigits, dif_neg h10, show ddL (k / 10) = Lib.decDigits (k / 10) from if_neg (by omega)]

def digits10 : ByteArray := ⟨#[48, 49, 50, 51, 52, 53, 54, 55, 56, 57]⟩
theorem digit_at (d : Nat) (h : d < 10) : digits10.extract d (d + 1) = ⟨[UInt8.ofNat (48 + d)].toArray⟩ := by
  match d, h with
  | 0, _ => rfl
  | 1, _ => rfl
  | 2, _ => rfl
  | 3, _ => rfl
  | 4, _ => rfl
  | 5, _ => rfl
  | 6, _ => rfl
  | 7, _ => rfl
  | 8, _ => rfl
  | 9, _ => rfl

theorem run_digit (d : Nat) (h : d < 10) (wx : World) : (Instr.slice 9 (.string ⟨#[48, 49, 50, 51, 52, 53, 54, 55, 56, 57]⟩) (some (.int .i64 (d : Int))) (some (.int .i64 ((d : Int) + 1))) none).run Tryz.prog wx = .ok (.string ⟨[UInt8.ofNat (48 + d)].toArray⟩) wx := by
  have := run_slice_string (P := Tryz.prog) wx 9 digits10 .i64 .i64 (d : Int) ((d : Int) + 1) Tryz.underlying9 (by omega) (by omega) (by simp [digits10, ByteArray.size]; omega)
  rw [show ((d : Int)).toNat = d from Int.toNat_natCast d, show ((d : Int) + 1).toNat = d + 1 from by omega, digit_at d h] at this
  exact this

theorem cat_cons (a : UInt8) (l : List UInt8) : (⟨[a].toArray⟩ : ByteArray) ++ ⟨l.toArray⟩ = ⟨(a :: l).toArray⟩ := by
  apply ByteArray.ext
  simp

set_option maxHeartbeats 400000 in
theorem specDecText_pos (n : Nat) (w : World) (h0 : 1 ≤ n) (h1 : (n : Int) ≤ 9223372036854775807) :
    Calls Tryz.prog 37 #[.int .i64 n] w fun e w' => e = .returned (.string ⟨(Lib.decDigits n).toArray⟩) ∧ w = w' := by
  have hne : ((n : Int) == 0) = false := by simp; omega
  go_enter Tryz.func37, Tryz.ntmps37
  go_wp2
  go_loop [3, 4] (fun o m => ∃ (k f : Nat) (l : List UInt8), m = .int .i64 k ∧ k ≤ n ∧ k < 10 ^ f ∧ l.length + f = 20 ∧ o = .string ⟨l.toArray⟩ ∧ ddL k ++ l = Lib.decDigits n) (fun _ m => (intOf m).toNat)
  case atStart => exact ⟨n, 20, [], rfl, Nat.le_refl _, by omega, rfl, rfl, by rw [List.append_nil]; exact if_neg (by omega)⟩
  case round =>
    obtain ⟨k, f, l, rfl, hk, hf, hl, rfl, hd⟩ := hrel
    have HF : Hid (k < 10 ^ f) := hf
    have HD : Hid (ddL k ++ l = Lib.decDigits n) := hd
    clear hf hd
    have hsz : (⟨l.toArray⟩ : ByteArray).size ≤ 20 := by simp [ByteArray.size]; omega
    by_cases hlt : 0 < k
    · obtain ⟨f, rfl⟩ : ∃ q, f = q + 1 := by
        cases f with
        | zero => have := HF.out; simp at this; omega
        | succ q => exact ⟨q, rfl⟩
      have HF2 : Hid (k / 10 < 10 ^ f) := by
        have h2 : k < 10 ^ (f + 1) := HF.out
        rw [Nat.pow_succ] at h2
        exact Nat.div_lt_of_lt_mul (by omega)
      have HD2 : Hid (ddL (k / 10) ++ (UInt8.ofNat (48 + k % 10) :: l) = Lib.decDigits n) := by
        have h2 : ddL k ++ l = Lib.decDigits n := HD.out
        rw [ddL_more k hlt, List.append_assoc] at h2
        exact h2
      have hsl := run_digit (k % 10) (by omega)
      rw [show (((k % 10 : Nat)) : Int) = (k : Int) % 10 from by omega] at hsl
      have HS : Hid ((⟨[UInt8.ofNat (48 + k % 10)].toArray⟩ : ByteArray) ++ ⟨l.toArray⟩ = ⟨(UInt8.ofNat (48 + k % 10) :: l).toArray⟩) := cat_cons _ _
      have hV1 : (⟨[UInt8.ofNat (48 + k % 10)].toArray⟩ : ByteArray).size ≤ 1 := by simp [ByteArray.size]
      generalize (⟨[UInt8.ofNat (48 + k % 10)].toArray⟩ : ByteArray) = V at *
      generalize hOe : (⟨l.toArray⟩ : ByteArray) = O at *
      clear hOe
      have hne2 : ((k : Int) != 0) = true := by simp; omega
      go_wp2
      go_round
      case rel => exact ⟨k / 10, f, UInt8.ofNat (48 + k % 10) :: l, by go_num, by omega, HF2.out, by simp; omega, by rw [HS.out], HD2.out⟩
      case measure => simp [intOf]; omega
    · have hk0 : k = 0 := by omega
      subst hk0
      have HE : Hid (l = Lib.decDigits n) := HD.out
      generalize hOe : (⟨l.toArray⟩ : ByteArray) = O at *
      have HO : Hid ((⟨l.toArray⟩ : ByteArray) = O) := hOe
      clear hOe
      go_wp2
      go_ret
      exact ⟨by rw [← HE.out, HO.out]; rfl, rfl⟩

set_option maxHeartbeats 400000 in
theorem specDecText_neg (n : Nat) (w : World) (h0 : 1 ≤ n) (h1 : (n : Int) ≤ 9223372036854775808) :
    Calls Tryz.prog 37 #[.int .i64 (-(n : Int))] w fun e w' => e = .returned (.string ⟨(45 :: Lib.decDigits n).toArray⟩) ∧ w = w' := by
  have hne : (-(n : Int) == 0) = false := by simp; omega
  go_enter Tryz.func37, Tryz.ntmps37
  go_wp2
  go_loop [3, 4] (fun o m => ∃ (k f : Nat) (l : List UInt8), m = .int .i64 (-(k : Int)) ∧ k ≤ n ∧ k < 10 ^ f ∧ l.length + f = 20 ∧ o = .string ⟨l.toArray⟩ ∧ ddL k ++ l = Lib.decDigits n) (fun _ m => (-(intOf m)).toNat)
  case atStart => exact ⟨n, 20, [], rfl, Nat.le_refl _, by omega, rfl, rfl, by rw [List.append_nil]; exact if_neg (by omega)⟩
  case round =>
    obtain ⟨k, f, l, rfl, hk, hf, hl, rfl, hd⟩ := hrel
    have HF : Hid (k < 10 ^ f) := hf
    have HD : Hid (ddL k ++ l = Lib.decDigits n) := hd
    clear hf hd
    have hsz : (⟨l.toArray⟩ : ByteArray).size ≤ 20 := by simp [ByteArray.size]; omega
    by_cases hlt : 0 < k
    · obtain ⟨f, rfl⟩ : ∃ q, f = q + 1 := by
        cases f with
        | zero => have := HF.out; simp at this; omega
        | succ q => exact ⟨q, rfl⟩
      have HF2 : Hid (k / 10 < 10 ^ f) := by
        have h2 : k < 10 ^ (f + 1) := HF.out
        rw [Nat.pow_succ] at h2
        exact Nat.div_lt_of_lt_mul (by omega)
      have HD2 : Hid (ddL (k / 10) ++ (UInt8.ofNat (48 + k % 10) :: l) = Lib.decDigits n) := by
        have h2 : ddL k ++ l = Lib.decDigits n := HD.out
        rw [ddL_more k hlt, List.append_assoc] at h2
        exact h2
      have hsl := run_digit (k % 10) (by omega)
      rw [show (((k % 10 : Nat)) : Int) = (k : Int) % 10 from by omega] at hsl
      have HS : Hid ((⟨[UInt8.ofNat (48 + k % 10)].toArray⟩ : ByteArray) ++ ⟨l.toArray⟩ = ⟨(UInt8.ofNat (48 + k % 10) :: l).toArray⟩) := cat_cons _ _
      have hV1 : (⟨[UInt8.ofNat (48 + k % 10)].toArray⟩ : ByteArray).size ≤ 1 := by simp [ByteArray.size]
      generalize (⟨[UInt8.ofNat (48 + k % 10)].toArray⟩ : ByteArray) = V at *
      generalize hOe : (⟨l.toArray⟩ : ByteArray) = O at *
      clear hOe
      have hne2 : (-(k : Int) != 0) = true := by simp; omega
      have hsl0 : (k : Int) % 10 = 0 → ∀ wx : World, (Instr.slice 9 (.string ⟨#[48, 49, 50, 51, 52, 53, 54, 55, 56, 57]⟩) (some (.int .i64 (-((k : Int) % 10)))) (some (.int .i64 (-((k : Int) % 10) + 1))) none).run Tryz.prog wx = .ok (.string V) wx := fun hz wx => by
        rw [show -((k : Int) % 10) = (k : Int) % 10 from by omega]
        exact hsl wx
      by_cases hz : (k : Int) % 10 = 0
      · have hsl1 := hsl0 hz
        have hzn : ¬ (0 : Int) < (k : Int) % 10 := by omega
        have HZ : Hid ((k : Int) % 10 = 0) := hz
        clear hsl hsl0 hz
        go_wp2
        go_round
        case rel => exact ⟨k / 10, f, UInt8.ofNat (48 + k % 10) :: l, by go_num, by omega, HF2.out, by simp; omega, by rw [HS.out], HD2.out⟩
        case measure => simp [intOf]; omega
      have hzp : (0 : Int) < (k : Int) % 10 := by omega
      clear hsl0 hz
      go_wp2
      go_round
      case rel => exact ⟨k / 10, f, UInt8.ofNat (48 + k % 10) :: l, by go_num, by omega, HF2.out, by simp; omega, by rw [HS.out], HD2.out⟩
      case measure => simp [intOf]; omega
    · have hk0 : k = 0 := by omega
      subst hk0
      have HE : Hid (l = Lib.decDigits n) := HD.out
      generalize hOe : (⟨l.toArray⟩ : ByteArray) = O at *
      have HO : Hid ((⟨#[45]⟩ : ByteArray) ++ O = ⟨(45 :: Lib.decDigits n).toArray⟩) := by
        show _ = _
        rw [← hOe, ← HE.out]
        exact cat_cons 45 l
      clear hOe
      go_wp2
      go_ret
      exact ⟨by rw [← HO.out]; rfl, rfl⟩

set_option maxHeartbeats 400000 in
theorem specDecText (n : Int) (w : World) (h0 : -9223372036854775808 ≤ n) (h1 : n ≤ 9223372036854775807) :
    Calls Tryz.prog 37 #[.int .i64 n] w fun e w' => e = .returned (.string ⟨(Lib.itoa n).toArray⟩) ∧ w = w' := by
  by_cases hneg : n < 0
  · rw [show Lib.itoa n = 45 :: Lib.decDigits n.natAbs from if_pos hneg]
    have hn : n = -(n.natAbs : Int) := by omega
    generalize n.natAbs = k at *
    subst hn
    exact specDecText_neg k w (by omega) (by omega)
  · rw [show Lib.itoa n = Lib.decDigits n.toNat from if_neg hneg]
    obtain ⟨k, rfl⟩ := Int.eq_ofNat_of_zero_le (show 0 ≤ n by omega)
    rw [Int.toNat_natCast]
    by_cases hk : k = 0
    · subst hk
      rw [Lib.decDigits_one (by omega)]
      go_enter Tryz.func37, Tryz.ntmps37
      go_wp2
      go_ret
      exact ⟨rfl, rfl⟩
    · exact specDecText_pos k w (by omega) (by omega)

end Go.Proofs.YtikoacgfnojoeaaGreatDoor

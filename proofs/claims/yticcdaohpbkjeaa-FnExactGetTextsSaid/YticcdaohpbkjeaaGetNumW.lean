/-
  The walks of impl.GetNum and spec.GetNum: each answers the number whose bytes stand at the place, and the place behind it.
-/
import Derived.Test.YticcdaohpbkjeaaPutNumW
import Derived.Test.YticcdaohpbkjeaaPlain2
namespace Go.Proofs.Yticcdaohpbkjeaa
open Go.RowKit

/-- the bytes of a text as numbers -/
def bytesN (s : ByteArray) : List Nat := s.data.toList.map UInt8.toNat
theorem bytesN_length (s : ByteArray) : (bytesN s).length = s.size := by simp [bytesN]
theorem bytesN_get (s : ByteArray) (j : Nat) (h : j < s.size) (h' : j < (bytesN s).length) : (bytesN s)[j] = (s[j]).toNat := by simp [bytesN]; rfl
theorem bytesN_lt (s : ByteArray) (j : Nat) (h' : j < (bytesN s).length) : (bytesN s)[j] < 256 := by
  simp [bytesN]
  exact UInt8.toNat_lt _

theorem getN_at (s : ByteArray) (i k D U : Nat) (hk : k < 5) (h5 : i + k < s.size) (HA : ∀ x ∈ ((bytesN s).drop i).take k, 128 ≤ x) (HD : Plain.dec (((bytesN s).drop i).take k) = D) (HU : 128 ^ k = U) (hb : (s[i + k].toNat : Int) < 128) :
    Plain.getN (bytesN s) i = if (s[i + k].toNat = 0 ∧ k ≠ 0) ∨ (999999999 : Int) < D + (s[i + k].toNat : Int) % 128 * U then (0, -1) else ((D : Int) + (s[i + k].toNat : Int) % 128 * U, (i : Int) + k + 1) := by
  have hl : i + k < (bytesN s).length := by rw [bytesN_length]; exact h5
  have hg := bytesN_get s (i + k) h5 hl
  have h := Plain.getN_hit (bytesN s) i k hk hl HA (by rw [hg]; omega)
  have hd := Plain.dec_more (bytesN s) i k hl
  rw [Plain.take_more _ _ _ hl] at hd
  rw [h, hd, hg, HD, HU]
  have e1 : ((D + s[i + k].toNat % 128 * U : Nat) : Int) = (D : Int) + (s[i + k].toNat : Int) % 128 * U := by simp
  have e2 : ((i + k + 1 : Nat) : Int) = (i : Int) + k + 1 := by omega
  have e3 : (999999999 < D + s[i + k].toNat % 128 * U) ↔ (999999999 : Int) < D + (s[i + k].toNat : Int) % 128 * U := by rw [← e1]; omega
  rw [e1, e2]
  simp only [e3]

theorem getN_go (s : ByteArray) (i k D U : Nat) (h5 : i + k < s.size) (HA : ∀ x ∈ ((bytesN s).drop i).take k, 128 ≤ x) (HD : Plain.dec (((bytesN s).drop i).take k) = D) (HU : 128 ^ k = U) (hb : (128 : Int) ≤ s[i + k].toNat) :
    (∀ x ∈ ((bytesN s).drop i).take (k + 1), 128 ≤ x) ∧ (D : Int) + (s[i + k].toNat : Int) % 128 * U = ((Plain.dec (((bytesN s).drop i).take (k + 1)) : Nat) : Int) ∧ (U : Int) * 128 = ((128 ^ (k + 1) : Nat) : Int) := by
  have hl : i + k < (bytesN s).length := by rw [bytesN_length]; exact h5
  have hg := bytesN_get s (i + k) h5 hl
  refine ⟨Plain.all_more _ _ _ hl HA (by rw [hg]; omega), ?_, ?_⟩
  · rw [Plain.dec_more _ _ _ hl, hg, HD, HU]; simp
  · rw [Nat.pow_succ, HU]; simp

set_option maxHeartbeats 400000 in
theorem implGetNum_neg (s : ByteArray) (i : Int) (w : World) (h : i < 0) :
    Calls Try.prog 24 #[.string s, .int .i64 i] w fun e w' => e = .returned (.tuple #[.int .i64 0, .int .i64 (-1)]) ∧ w = w' := by
  go_enter Try.func24, Try.ntmps24
  go_wp2
  go_ret2
  exact ⟨rfl, rfl⟩

set_option maxHeartbeats 400000 in
set_option maxRecDepth 100000 in
theorem implGetNum_any (s : ByteArray) (i : Nat) (w : World) (hs : s.size ≤ 140737488355328) (hi : (i : Int) ≤ 9223372036854775807) :
    Calls Try.prog 24 #[.string s, .int .i64 i] w fun e w' => e = .returned (.tuple #[.int .i64 (Plain.getN (bytesN s) i).1, .int .i64 (Plain.getN (bytesN s) i).2]) ∧ w = w' := by
  have h0 : ¬ (i : Int) < 0 := by omega
  have hlen := bytesN_length s
  go_enter Try.func24, Try.ntmps24
  go_wp2
  go_loop [6, 7, 8] (fun n u a => ∃ k : Nat, k ≤ 5 ∧ (k = 0 ∨ i + k ≤ s.size) ∧ (∀ x ∈ ((bytesN s).drop i).take k, 128 ≤ x) ∧ n = .int .i64 (Plain.dec (((bytesN s).drop i).take k) : Nat) ∧ u = .int .i64 (128 ^ k : Nat) ∧ a = .int .i64 ((i + k : Nat) : Int))
    (fun _ _ a => i + 5 - (intOf a).toNat)
  case atStart => exact ⟨0, by omega, .inl rfl, by simp, by simp [Plain.dec], rfl, rfl⟩
  case round =>
    obtain ⟨k, hk, hik, hall, rfl, rfl, rfl⟩ := hrel
    have HA : Hid (∀ x ∈ ((bytesN s).drop i).take k, 128 ≤ x) := hall
    have hd := Plain.dec_take_lt (bytesN s) i k
    have hp : 128 ^ k ≤ 128 ^ 5 := Nat.pow_le_pow_right (by omega) hk
    clear hall
    generalize hD : Plain.dec (((bytesN s).drop i).take k) = D at *
    generalize hU : 128 ^ k = U at *
    have HD : Hid (Plain.dec (((bytesN s).drop i).take k) = D) := hD
    have HU : Hid (128 ^ k = U) := hU
    clear hD hU
    by_cases he : s.size ≤ i + k
    · go_wp2
      go_ret2
      exact ⟨by rw [Plain.getN_end _ _ k hk HA.out (.inr (by omega))]; rfl, rfl⟩
    · by_cases he5 : k = 5
      · subst he5
        have h5 : i + 5 < s.size := by omega
        go_wp2
        go_ret2
        exact ⟨by rw [Plain.getN_end _ _ 5 hk HA.out (.inl rfl)]; rfl, rfl⟩
      · have h5 : i + k < s.size := by omega
        have hk5 : k < 5 := by omega
        have hb : (s[i + k].toNat : Int) < 256 := by have := UInt8.toNat_lt s[i + k]; omega
        have hU5 : (U : Int) ≤ 34359738368 := by omega
        have hm0 : (0 : Int) ≤ (s[i + k].toNat : Int) % 128 * U := Int.mul_nonneg (by omega) (by omega)
        have hm1 : (s[i + k].toNat : Int) % 128 * U ≤ 127 * U := Int.mul_le_mul_of_nonneg_right (by omega) (by omega)
        have hDU : (D : Int) < U := by omega
        clear hd hp
        by_cases hc : (128 : Int) ≤ s[i + k].toNat
        · obtain ⟨g1, g2, g3⟩ := getN_go s i k D U h5 HA.out HD.out HU.out hc
          have G : Hid (_ ∧ _ ∧ _) := ⟨g1, g2, g3⟩
          clear g1 g2 g3
          go_wp2
          go_round
          case rel => exact ⟨k + 1, by omega, by omega, G.out.1, by rw [G.out.2.1], by rw [G.out.2.2], by go_num⟩
          case measure => simp [intOf]; omega
        · have E : Hid (Plain.getN (bytesN s) i = _) := getN_at s i k D U hk5 h5 HA.out HD.out HU.out (by omega)
          go_wp2
          · have h1 : s[i + k].toNat = 0 := by assumption
            have h2 : (i : Int) < i + k ∨ 999999999 < (D : Int) := by assumption
            go_ret2
            refine ⟨?_, rfl⟩
            rw [E.out, if_pos (.inr (by rw [h1]; simp; omega))]
            rfl
          · have h1 : s[i + k].toNat = 0 := by assumption
            have h2 : (i : Int) + k ≤ i ∧ (D : Int) ≤ 999999999 := by assumption
            go_ret2
            refine ⟨?_, rfl⟩
            rw [E.out, if_neg (by rw [h1]; simp; omega), h1]
            simp
          · have h1 : s[i + k].toNat = 0 := by assumption
            have h2 : (i : Int) < i + k := by assumption
            go_ret2
            refine ⟨?_, rfl⟩
            rw [E.out, if_pos (.inl ⟨h1, by omega⟩)]
            rfl
          · have h2 : (999999999 : Int) < D + (s[i + k].toNat : Int) % 128 * U := by assumption
            go_ret2
            refine ⟨?_, rfl⟩
            rw [E.out, if_pos (.inr h2)]
            rfl
          · have h1 : ¬ s[i + k].toNat = 0 := by assumption
            have h2 : (D : Int) + (s[i + k].toNat : Int) % 128 * U ≤ 999999999 := by assumption
            go_ret2
            refine ⟨?_, rfl⟩
            rw [E.out, if_neg (by rintro (h | h) <;> omega)]
            rfl

end Go.Proofs.Yticcdaohpbkjeaa

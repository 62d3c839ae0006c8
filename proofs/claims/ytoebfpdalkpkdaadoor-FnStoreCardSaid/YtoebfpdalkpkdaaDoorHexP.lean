/-
  Plain mathematics of hexadecimal digits: no program in sight.
-/
namespace Go.Proofs.YtoebfpdalkpkdaaDoor.Hex

/-- a digit's byte -/
def hd (d : Nat) : UInt8 := UInt8.ofNat (if d < 10 then 48 + d else 87 + d)

/-- the digits, no nought ahead -/
def hx : Nat → Nat → List UInt8
  | 0, u => [hd u]
  | f + 1, u => if u < 16 then [hd u] else hx f (u / 16) ++ [hd (u % 16)]
theorem hx_small (f u : Nat) (h : u < 16) : hx f u = [hd u] := by
  cases f with
  | zero => rfl
  | succ f => simp [hx, h]
theorem hx_big (f u : Nat) (h : 16 ≤ u) : hx (f + 1) u = hx f (u / 16) ++ [hd (u % 16)] := by
  rw [hx, if_neg (by omega)]
theorem hx_length (f u : Nat) : 1 ≤ (hx f u).length ∧ (hx f u).length ≤ f + 1 := by
  induction f generalizing u with
  | zero => simp [hx]
  | succ f ih =>
    by_cases h : u < 16
    · rw [hx_small _ _ h]; simp
    · rw [hx_big _ _ (by omega)]; have := ih (u / 16); simp; omega

/-- so many digits, noughts ahead -/
def hf : Nat → Nat → List UInt8
  | 0, _ => []
  | f + 1, u => hf f (u / 16) ++ [hd (u % 16)]
theorem hf_zero (f : Nat) : hf f 0 = List.replicate f 48 := by
  induction f with
  | zero => rfl
  | succ f ih => rw [hf, show 0 / 16 = 0 from rfl, ih, show (0 % 16) = 0 from rfl, List.replicate_succ']; rfl
theorem hf_hx (f u : Nat) (h : u < 16 ^ (f + 1)) : hf (f + 1) u = List.replicate (f + 1 - (hx f u).length) 48 ++ hx f u := by
  induction f generalizing u with
  | zero =>
    have hu : u % 16 = u := by simp at h; omega
    simp [hf, hx, hu]
  | succ f ih =>
    by_cases hs : u < 16
    · rw [hx_small _ _ hs, hf, show u / 16 = 0 from by omega, hf_zero, show u % 16 = u from by omega]
      simp
    · rw [hx_big _ _ (by omega), hf, ih (u / 16) (by rw [Nat.pow_succ] at h; exact Nat.div_lt_of_lt_mul (by omega))]
      have := hx_length f (u / 16)
      rw [List.append_assoc, List.length_append, List.length_singleton, show f + 1 + 1 - ((hx f (u / 16)).length + 1) = f + 1 - (hx f (u / 16)).length from by omega]

end Go.Proofs.YtoebfpdalkpkdaaDoor.Hex

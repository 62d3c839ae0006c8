/-
  Plain mathematics of numbers as bytes of seven bits: no program in sight.
-/
namespace Go.Proofs.YtoebfpdalkpkdaaDoor.Plain

/-- seven bits each, the lowest first; each but the last with 128 more -/
def encF : Nat → Nat → List Nat
  | 0, n => [n]
  | f + 1, n => if n < 128 then [n] else (n % 128 + 128) :: encF f (n / 128)

theorem encF_small (f n : Nat) (h : n < 128) : encF f n = [n] := by
  cases f with
  | zero => rfl
  | succ f => simp [encF, h]

theorem encF_big (f n : Nat) (h : 128 ≤ n) : encF (f + 1) n = (n % 128 + 128) :: encF f (n / 128) := by
  have : ¬ n < 128 := by omega
  simp [encF, this]

theorem encF_byte (f n : Nat) (h : n < 128 ^ (f + 1)) : ∀ x ∈ encF f n, x < 256 := by
  induction f generalizing n with
  | zero => intro x hx; simp [encF] at hx; simp at h; omega
  | succ f ih =>
    intro x hx
    by_cases hn : n < 128
    · rw [encF_small _ _ hn] at hx; simp at hx; omega
    · rw [encF_big _ _ (by omega)] at hx
      cases List.mem_cons.1 hx with
      | inl e => omega
      | inr e =>
        refine ih (n / 128) ?_ x e
        rw [Nat.pow_succ] at h
        exact Nat.div_lt_of_lt_mul (by omega)

theorem encF_length (f n : Nat) : 1 ≤ (encF f n).length ∧ (encF f n).length ≤ f + 1 := by
  induction f generalizing n with
  | zero => simp [encF]
  | succ f ih =>
    by_cases hn : n < 128
    · rw [encF_small _ _ hn]; simp
    · rw [encF_big _ _ (by omega)]; have := ih (n / 128); simp; omega

/-- what bytes are worth -/
def dec : List Nat → Nat
  | [] => 0
  | b :: r => b % 128 + 128 * dec r

theorem dec_snoc (l : List Nat) (b : Nat) : dec (l ++ [b]) = dec l + b % 128 * 128 ^ l.length := by
  induction l with
  | nil => simp [dec]
  | cons a l ih =>
    simp only [List.cons_append, dec, ih, List.length_cons, Nat.pow_succ, Nat.mul_add]
    have : 128 * (b % 128 * 128 ^ l.length) = b % 128 * (128 ^ l.length * 128) := by
      rw [Nat.mul_comm 128, Nat.mul_assoc]
    omega

theorem dec_lt (l : List Nat) : dec l < 128 ^ l.length := by
  induction l with
  | nil => simp [dec]
  | cons a l ih => simp only [dec, List.length_cons, Nat.pow_succ]; omega

/-- the bytes of a number are worth it -/
theorem dec_encF (f n : Nat) (h : n < 128 ^ (f + 1)) : dec (encF f n) = n := by
  induction f generalizing n with
  | zero => simp [encF, dec] at *; omega
  | succ f ih =>
    by_cases hn : n < 128
    · rw [encF_small _ _ hn]; simp [dec]; omega
    · rw [encF_big _ _ (by omega)]
      have : n / 128 < 128 ^ (f + 1) := by
        rw [Nat.pow_succ] at h
        exact Nat.div_lt_of_lt_mul (by omega)
      simp only [dec, ih _ this]
      omega

/-- bytes that go on, and a last one that ends -/
def Chain (l : List Nat) (b : Nat) : Prop := (∀ x ∈ l, 128 ≤ x ∧ x < 256) ∧ b < 128

theorem enc_dec (l : List Nat) (b f : Nat) (hc : Chain l b) (hf : l.length ≤ f) :
    encF f (dec (l ++ [b])) = l ++ [b] ↔ (b ≠ 0 ∨ l = []) := by
  induction l generalizing f with
  | nil =>
    have hb : b < 128 := hc.2
    have e : dec ([] ++ [b]) = b := by simp [dec]; omega
    rw [e, encF_small _ _ hb]
    simp
  | cons a l ih =>
    obtain ⟨f, rfl⟩ : ∃ g, f = g + 1 := ⟨f - 1, by simp at hf; omega⟩
    have ha := hc.1 a (by simp)
    have hl : Chain l b := ⟨fun x hx => hc.1 x (by simp [hx]), hc.2⟩
    have hi := ih f hl (by simpa using hf)
    have ed : dec (a :: l ++ [b]) = a % 128 + 128 * dec (l ++ [b]) := rfl
    by_cases hz : dec (l ++ [b]) = 0
    · -- then the last is nothing
      have hb0 : b = 0 := by
        have := dec_snoc l b
        have hp : 0 < 128 ^ l.length := Nat.pow_pos (by omega)
        have h2 : b % 128 * 128 ^ l.length = 0 := by omega
        rcases Nat.mul_eq_zero.1 h2 with h | h
        · have := hl.2; omega
        · omega
      rw [ed, hz, encF_small _ _ (by omega)]
      subst hb0
      simp
    · have hbig : 128 ≤ dec (a :: l ++ [b]) := by rw [ed]; omega
      rw [encF_big _ _ hbig]
      have e1 : dec (a :: l ++ [b]) / 128 = dec (l ++ [b]) := by rw [ed]; omega
      have e2 : dec (a :: l ++ [b]) % 128 + 128 = a := by rw [ed]; omega
      rw [e1, e2]
      simp only [List.cons_append, List.cons.injEq, true_and]
      rw [hi]
      constructor
      · rintro (h | h)
        · exact .inl h
        · subst h
          left
          intro h0
          subst h0
          exact hz (by simp [dec])
      · rintro (h | h)
        · exact .inl h
        · simp at h

end Go.Proofs.YtoebfpdalkpkdaaDoor.Plain

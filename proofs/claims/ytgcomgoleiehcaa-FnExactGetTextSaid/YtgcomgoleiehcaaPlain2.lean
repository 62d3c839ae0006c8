/-
  Plain mathematics: a number read out of bytes: no program in sight.
-/
import Derived.Test.YtgcomgoleiehcaaPlain
namespace Go.Proofs.Ytgcomgoleiehcaa.Plain

/-- the bytes that go on, and the one that ends, among the first f -/
def chain : Nat → List Nat → Option (List Nat × Nat)
  | 0, _ => none
  | _ + 1, [] => none
  | f + 1, x :: r => if x < 128 then some ([], x) else (chain f r).map fun y => (x :: y.1, y.2)

theorem chain_pre (pre rest : List Nat) (f : Nat) (h : ∀ x ∈ pre, 128 ≤ x) :
    chain (pre.length + f) (pre ++ rest) = (chain f rest).map fun y => (pre ++ y.1, y.2) := by
  induction pre with
  | nil => simp
  | cons a pre ih =>
    have ha : ¬ a < 128 := by have := h a (by simp); omega
    have hi := ih (fun x hx => h x (by simp [hx]))
    have e : (a :: pre).length + f = (pre.length + f) + 1 := by simp; omega
    rw [e, List.cons_append, chain, if_neg ha, hi, Option.map_map]
    rfl

/-- the number whose bytes stand from place i on, and the place behind -/
def getN (l : List Nat) (i : Nat) : Int × Int :=
  match chain 5 (l.drop i) with
  | none => (0, -1)
  | some (p, b) => if (b = 0 ∧ p ≠ []) ∨ 999999999 < dec (p ++ [b]) then (0, -1) else ((dec (p ++ [b]) : Nat), ((i + p.length + 1 : Nat) : Int))

theorem getN_end (l : List Nat) (i k : Nat) (hk : k ≤ 5) (hall : ∀ x ∈ (l.drop i).take k, 128 ≤ x) (hend : k = 5 ∨ l.length ≤ i + k) : getN l i = (0, -1) := by
  have hc : chain 5 (l.drop i) = none := by
    have h1 := chain_pre ((l.drop i).take k) ((l.drop i).drop k) (5 - ((l.drop i).take k).length) hall
    have hl : ((l.drop i).take k).length ≤ 5 := by simp; omega
    rw [List.take_append_drop, show ((l.drop i).take k).length + (5 - ((l.drop i).take k).length) = 5 from by omega] at h1
    rw [h1]
    rcases hend with h | h
    · by_cases hz : ((l.drop i).take k).length = 5
      · rw [hz]; simp [chain]
      · have : (l.drop i).drop k = [] := by
          rw [List.drop_eq_nil_iff]
          simp at hz ⊢
          omega
        rw [this]
        cases 5 - ((l.drop i).take k).length <;> simp [chain]
    · have : (l.drop i).drop k = [] := by
        rw [List.drop_eq_nil_iff]
        simp
        omega
      rw [this]
      cases 5 - ((l.drop i).take k).length <;> simp [chain]
  simp [getN, hc]

theorem take_more (l : List Nat) (i k : Nat) (h : i + k < l.length) : (l.drop i).take (k + 1) = (l.drop i).take k ++ [l[i + k]] := by
  rw [List.take_succ_eq_append_getElem (by simp; omega)]
  simp

theorem getN_hit (l : List Nat) (i k : Nat) (hk : k < 5) (hik : i + k < l.length) (hall : ∀ x ∈ (l.drop i).take k, 128 ≤ x) (hb : l[i + k] < 128) :
    getN l i = if (l[i + k] = 0 ∧ k ≠ 0) ∨ 999999999 < dec ((l.drop i).take k ++ [l[i + k]]) then (0, -1) else (((dec ((l.drop i).take k ++ [l[i + k]]) : Nat) : Int), ((i + k + 1 : Nat) : Int)) := by
  have hlen : ((l.drop i).take k).length = k := by simp; omega
  have hd : l.drop i = (l.drop i).take k ++ (l[i + k] :: (l.drop i).drop (k + 1)) := by
    have := List.take_append_drop (k + 1) (l.drop i)
    rw [take_more l i k hik, List.append_assoc] at this
    exact this.symm
  have hc : chain 5 (l.drop i) = some ((l.drop i).take k, l[i + k]) := by
    have h1 := chain_pre ((l.drop i).take k) (l[i + k] :: (l.drop i).drop (k + 1)) (5 - k) hall
    rw [hlen, show k + (5 - k) = 5 from by omega, ← hd] at h1
    rw [h1]
    obtain ⟨g, hg⟩ : ∃ g, 5 - k = g + 1 := ⟨4 - k, by omega⟩
    rw [hg, chain, if_pos hb]
    simp
  have hne : ((l.drop i).take k ≠ []) ↔ k ≠ 0 := by
    rw [← List.length_pos_iff, hlen]; omega
  simp only [getN, hc, hlen]
  by_cases hc2 : (l[i + k] = 0 ∧ k ≠ 0) ∨ 999999999 < dec ((l.drop i).take k ++ [l[i + k]])
  · rw [if_pos hc2, if_pos (by rw [hne]; exact hc2)]
  · rw [if_neg hc2, if_neg (by rw [hne]; exact hc2)]

theorem all_more (l : List Nat) (i k : Nat) (h : i + k < l.length) (hall : ∀ x ∈ (l.drop i).take k, 128 ≤ x) (hb : 128 ≤ l[i + k]) : ∀ x ∈ (l.drop i).take (k + 1), 128 ≤ x := by
  rw [take_more l i k h]
  intro x hx
  rcases List.mem_append.1 hx with h1 | h1
  · exact hall x h1
  · simp at h1; omega

theorem dec_more (l : List Nat) (i k : Nat) (h : i + k < l.length) : dec ((l.drop i).take (k + 1)) = dec ((l.drop i).take k) + l[i + k] % 128 * 128 ^ k := by
  rw [take_more l i k h, dec_snoc]
  have : ((l.drop i).take k).length = k := by simp; omega
  rw [this]

theorem dec_take_lt (l : List Nat) (i k : Nat) : dec ((l.drop i).take k) < 128 ^ k := by
  have h1 := dec_lt ((l.drop i).take k)
  have h2 : 128 ^ ((l.drop i).take k).length ≤ 128 ^ k := Nat.pow_le_pow_right (by omega) (by simp; omega)
  omega

end Go.Proofs.Ytgcomgoleiehcaa.Plain

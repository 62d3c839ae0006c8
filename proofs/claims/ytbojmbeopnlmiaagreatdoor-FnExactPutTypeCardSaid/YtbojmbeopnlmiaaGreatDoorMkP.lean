/-
  The key by which a maker finds a form, plainly: kinds, names and numbers are told apart by it. No program here.
-/
import Derived.Lib.ItoaNum
namespace Go.Proofs.YtbojmbeopnlmiaaGreatDoor
open Go.Lib

/-- what the digits tell -/
def unDec (l : List UInt8) : Nat := l.foldl (fun a b => a * 10 + (b.toNat - 48)) 0

theorem dig_toNat (u : Nat) : (UInt8.ofNat (48 + u % 10)).toNat = 48 + u % 10 := by
  rw [UInt8.toNat_ofNat']
  exact Nat.mod_eq_of_lt (by omega)

theorem unDec_dec (u : Nat) : unDec (decDigits u) = u := by
  induction u using Nat.strongRecOn with
  | _ u ih =>
    rw [decDigits]
    split
    · rename_i h
      have h1 := dig_toNat u
      rw [Nat.mod_eq_of_lt h] at h1
      show 0 * 10 + ((UInt8.ofNat (48 + u)).toNat - 48) = u
      omega
    · have h1 := dig_toNat u
      have h2 := ih (u / 10) (by omega)
      unfold unDec at h2 ⊢
      rw [List.foldl_append, h2]
      show u / 10 * 10 + ((UInt8.ofNat (48 + u % 10)).toNat - 48) = u
      omega

theorem dec_inj {u v : Nat} (h : decDigits u = decDigits v) : u = v := by rw [← unDec_dec u, h, unDec_dec]

theorem dec_digit {u : Nat} {b : UInt8} (h : b ∈ decDigits u) : 48 ≤ b.toNat ∧ b.toNat ≤ 57 := by
  induction u using Nat.strongRecOn with
  | _ u ih =>
    rw [decDigits] at h
    split at h
    · rename_i hu
      rw [List.mem_singleton] at h
      have h1 := dig_toNat u
      rw [Nat.mod_eq_of_lt hu] at h1
      subst h
      omega
    · rw [List.mem_append, List.mem_singleton] at h
      rcases h with h | h
      · exact ih (u / 10) (by omega) h
      · have h1 := dig_toNat u
        subst h
        omega
theorem dec_ne (u : Nat) : decDigits u ≠ [] := by
  rw [decDigits]
  split <;> simp

/-- words, each behind a blank -/
def tailK (l : List (List UInt8)) : List UInt8 := l.flatMap fun t => 32 :: t
theorem tailK_app (a b : List (List UInt8)) : tailK (a ++ b) = tailK a ++ tailK b := by simp [tailK]
theorem tailK_one (a : List UInt8) : tailK [a] = 32 :: a := by simp [tailK]

theorem first_word (t : List UInt8) (r : List (List UInt8)) (h : (32 : UInt8) ∉ t) : (t ++ tailK r).takeWhile (fun b => b != 32) = t := by
  induction t with
  | nil =>
    cases r with
    | nil => rfl
    | cons x y => simp [tailK]
  | cons b t ih =>
    rw [List.mem_cons, not_or] at h
    have hb : (b != 32) = true := by rw [bne_iff_ne]; exact fun e => h.1 e.symm
    rw [List.cons_append, List.takeWhile_cons, hb]
    simp only [if_true]
    rw [ih h.2]

theorem tailK_inj : ∀ (l l' : List (List UInt8)), (∀ t ∈ l, (32 : UInt8) ∉ t) → (∀ t ∈ l', (32 : UInt8) ∉ t) → tailK l = tailK l' → l = l' := by
  intro l
  induction l with
  | nil =>
    intro l' _ _ h
    cases l' with
    | nil => rfl
    | cons a r => simp [tailK] at h
  | cons t r ih =>
    intro l' h1 h2 h
    cases l' with
    | nil => simp [tailK] at h
    | cons t' r' =>
      have e : t ++ tailK r = t' ++ tailK r' := by
        have e1 : tailK (t :: r) = 32 :: (t ++ tailK r) := rfl
        have e2 : tailK (t' :: r') = 32 :: (t' ++ tailK r') := rfl
        rw [e1, e2] at h
        exact (List.cons.inj h).2
      have e1 := first_word t r (h1 t (List.mem_cons_self ..))
      have e2 := first_word t' r' (h2 t' (List.mem_cons_self ..))
      rw [e, e2] at e1
      subst e1
      rw [ih r' (fun x hx => h1 x (List.mem_cons_of_mem _ hx)) (fun x hx => h2 x (List.mem_cons_of_mem _ hx)) (List.append_cancel_left e)]

theorem split_by {α : Type} (P : α → Prop) : ∀ (A A' B B' : List α), (∀ x ∈ A, P x) → (∀ x ∈ A', P x) → (∀ x ∈ B, ¬ P x) → (∀ x ∈ B', ¬ P x) → A ++ B = A' ++ B' → A = A' ∧ B = B' := by
  intro A
  induction A with
  | nil =>
    intro A' B B' _ h2 h3 _ h
    cases A' with
    | nil => exact ⟨rfl, h⟩
    | cons a r =>
      rw [List.nil_append] at h
      subst h
      exact absurd (h2 a (List.mem_cons_self ..)) (h3 a (by simp))
  | cons a r ih =>
    intro A' B B' h1 h2 h3 h4 h
    cases A' with
    | nil =>
      rw [List.nil_append] at h
      subst h
      exact absurd (h1 a (List.mem_cons_self ..)) (h4 a (by simp))
    | cons a' r' =>
      rw [List.cons_append, List.cons_append, List.cons.injEq] at h
      obtain ⟨rfl, h⟩ := h
      obtain ⟨q1, q2⟩ := ih r' B B' (fun x hx => h1 x (List.mem_cons_of_mem _ hx)) (fun x hx => h2 x (List.mem_cons_of_mem _ hx)) h3 h4 h
      exact ⟨by rw [q1], q2⟩

/-- the key of a form of that kind, with these names, its kids' numbers -/
def keyF (k : Int) (nms : List ByteArray) (ks : List Nat) : List UInt8 := itoa k ++ tailK (nms.map fun x => x.data.toList) ++ tailK (ks.map decDigits)

/-- a name that a key takes: it opens with no digit, and has no blank -/
def keyName (x : ByteArray) : Prop := (32 : UInt8) ∉ x.data.toList ∧ ∃ b r, x.data.toList = b :: r ∧ 57 < b.toNat

theorem keyF_inj {k k' : Int} {a a' : List ByteArray} {s s' : List Nat} (h0 : 0 ≤ k ∧ k ≤ 7) (h1 : 0 ≤ k' ∧ k' ≤ 7) (ha : ∀ x ∈ a, keyName x) (ha' : ∀ x ∈ a', keyName x) (h : keyF k a s = keyF k' a' s') : k = k' ∧ a = a' ∧ s = s' := by
  have hk : ∀ z : Int, 0 ≤ z ∧ z ≤ 7 → itoa z = [UInt8.ofNat (48 + z.toNat)] := fun z hz => by
    unfold itoa
    rw [if_neg (by omega), decDigits_one (by omega)]
  unfold keyF at h
  rw [hk k h0, hk k' h1, List.append_assoc, List.append_assoc, List.singleton_append, List.singleton_append, List.cons.injEq, ← tailK_app, ← tailK_app] at h
  obtain ⟨e1, e2⟩ := h
  have ek : k = k' := by
    have e3 := congrArg UInt8.toNat e1
    rw [UInt8.toNat_ofNat', UInt8.toNat_ofNat', Nat.mod_eq_of_lt (by omega), Nat.mod_eq_of_lt (by omega)] at e3
    omega
  have hn : ∀ (l : List ByteArray), (∀ x ∈ l, keyName x) → ∀ t ∈ l.map (fun x => x.data.toList), ∃ b r, t = b :: r ∧ 57 < b.toNat := fun l hl t ht => by
    obtain ⟨x, hx, rfl⟩ := List.mem_map.1 ht
    exact (hl x hx).2
  have hd : ∀ (l : List Nat), ∀ t ∈ l.map decDigits, ¬ ∃ b r, t = b :: r ∧ 57 < b.toNat := fun l t ht => by
    obtain ⟨x, _, rfl⟩ := List.mem_map.1 ht
    rintro ⟨b, r, e, hb⟩
    have := dec_digit (u := x) (b := b) (by rw [e]; simp)
    omega
  have hb : ∀ (l : List ByteArray) (m : List Nat), (∀ x ∈ l, keyName x) → ∀ t ∈ l.map (fun x => x.data.toList) ++ m.map decDigits, (32 : UInt8) ∉ t := fun l m hl t ht => by
    rcases List.mem_append.1 ht with h | h
    · obtain ⟨x, hx, rfl⟩ := List.mem_map.1 h
      exact (hl x hx).1
    · obtain ⟨x, _, rfl⟩ := List.mem_map.1 h
      intro h32
      have := dec_digit h32
      simp at this
  have e4 := tailK_inj _ _ (hb a s ha) (hb a' s' ha') e2
  obtain ⟨q1, q2⟩ := split_by (fun t : List UInt8 => ∃ b r, t = b :: r ∧ 57 < b.toNat) _ _ _ _ (hn a ha) (hn a' ha') (hd s) (hd s') e4
  refine ⟨ek, ?_, ?_⟩
  · refine (List.map_inj_right ?_).1 q1
    intro x y hxy
    obtain ⟨⟨x⟩⟩ := x
    obtain ⟨⟨y⟩⟩ := y
    exact congrArg _ (congrArg _ hxy)
  · exact (List.map_inj_right fun x y hxy => dec_inj hxy).1 q2

end Go.Proofs.YtbojmbeopnlmiaaGreatDoor

/-
  Words, plainly: what a text's words are. No program here.
-/
namespace Go.Proofs.YtihpdngpedgjhaaDoor.Lx

def letterB (b : Nat) : Bool := decide ((97 ≤ b ∧ b ≤ 122) ∨ (65 ≤ b ∧ b ≤ 90))
def digitB (b : Nat) : Bool := decide (48 ≤ b ∧ b ≤ 57)
def alB (b : Nat) : Bool := letterB b || digitB b
def noteB (b : Nat) : Bool := decide (b ≠ 10)
def textB (b : Nat) : Bool := decide (32 ≤ b ∧ b ≤ 126 ∧ b ≠ 34 ∧ b ≠ 92)
def signB (b : Nat) : Bool := decide (b = 43 ∨ b = 61 ∨ b = 58 ∨ b = 44 ∨ b = 46 ∨ b = 124 ∨ b = 40 ∨ b = 41 ∨ b = 123 ∨ b = 125)
/-- the class of a byte -/
def cls (b : Nat) : Nat :=
  if letterB b then 4 else if digitB b then 5 else if b = 32 then 1 else if b = 10 then 2 else if b = 35 then 3 else if b = 34 then 6 else if b = 45 ∨ signB b then 7 else 0

/-- the byte at a place -/
def byt (s : ByteArray) (k : Nat) : Nat := if h : k < s.size then s[k].toNat else 0
theorem byt_eq (s : ByteArray) (k : Nat) (h : k < s.size) : s[k].toNat = byt s k := by unfold byt; rw [dif_pos h]
theorem byt_lt (s : ByteArray) (k : Nat) : byt s k < 256 := by
  unfold byt
  split
  · exact UInt8.toNat_lt _
  · omega

/-- the first place from k on whose byte is not such -/
def endP (p : Nat → Bool) (s : ByteArray) (k : Nat) : Nat := if k < s.size then (if p (byt s k) then endP p s (k + 1) else k) else k
  termination_by s.size - k

theorem endP_go {p : Nat → Bool} {s : ByteArray} {k : Nat} (h : k < s.size) (hp : p (byt s k) = true) : endP p s k = endP p s (k + 1) := by
  rw [endP, if_pos h, if_pos hp]
theorem endP_no {p : Nat → Bool} {s : ByteArray} {k : Nat} (hp : p (byt s k) = false) : endP p s k = k := by
  rw [endP]
  split
  · rw [if_neg (by simp [hp])]
  · rfl
theorem endP_out {p : Nat → Bool} {s : ByteArray} {k : Nat} (h : s.size ≤ k) : endP p s k = k := by
  rw [endP, if_neg (by omega)]
theorem endP_ge (p : Nat → Bool) (s : ByteArray) (k : Nat) : k ≤ endP p s k := by
  fun_induction endP p s k <;> omega
theorem endP_le (p : Nat → Bool) (s : ByteArray) (k : Nat) (h : k ≤ s.size) : endP p s k ≤ s.size := by
  fun_induction endP p s k <;> omega
theorem endP_in (p : Nat → Bool) (s : ByteArray) (k j : Nat) (h1 : k ≤ j) (h2 : j < endP p s k) : p (byt s j) = true := by
  fun_induction endP p s k with
  | case1 k h hp ih =>
    by_cases e : j = k
    · subst e; exact hp
    · exact ih (by omega) h2
  | case2 => omega
  | case3 => omega
theorem endP_at (p : Nat → Bool) (s : ByteArray) (k : Nat) : s.size ≤ endP p s k ∨ p (byt s (endP p s k)) = false := by
  fun_induction endP p s k with
  | case1 k h hp ih => exact ih
  | case2 k h hp => right; simpa using hp
  | case3 k h => left; omega

/-- the words of the language -/
def wordsL : List ByteArray := [⟨#[105, 109, 112, 111, 114, 116]⟩, ⟨#[116, 121, 112, 101]⟩, ⟨#[108, 101, 116]⟩, ⟨#[102, 110]⟩, ⟨#[105, 102]⟩, ⟨#[116, 104, 101, 110]⟩, ⟨#[101, 108, 115, 101]⟩, ⟨#[105, 110]⟩, ⟨#[116, 114, 117, 101]⟩, ⟨#[102, 97, 108, 115, 101]⟩, ⟨#[105, 110, 116]⟩, ⟨#[116, 101, 120, 116]⟩, ⟨#[98, 111, 111, 108]⟩, ⟨#[97, 110, 121]⟩]
def isWordP (t : ByteArray) : Bool := wordsL.any fun x => decide (x.data = t.data)
theorem isWordP_iff (t : ByteArray) : isWordP t = true ↔ t ∈ wordsL := by
  unfold isWordP
  rw [List.any_eq_true]
  constructor
  · rintro ⟨x, hx, he⟩
    have e : x = t := by
      cases x; cases t
      simpa using he
    exact e ▸ hx
  · intro h
    exact ⟨t, h, by simp⟩
def nameOkP (t : ByteArray) : Bool := decide (1 ≤ t.size ∧ t.size ≤ 12) && (letterB (byt t 0) && decide (endP alB t 0 = t.size)) && !isWordP t

structure Tok where
  kind : Nat
  text : ByteArray
  n : Nat
  line : Nat

/-- the number of so many digits from a place on -/
def numP (s : ByteArray) (i : Nat) : Nat → Nat
  | 0 => 0
  | k + 1 => 10 * numP s i k + (byt s (i + k) - 48)

def twoB (s : ByteArray) (i : Nat) : Bool := decide (i + 1 < s.size ∧ ((byt s i = 45 ∧ byt s (i + 1) = 62) ∨ (byt s i = 61 ∧ byt s (i + 1) = 61)))

/-- the word that begins at a place, and the place behind it -/
def tokP (s : ByteArray) (i line : Nat) : Option (Tok × Nat) :=
  if letterB (byt s i) then
    if 12 < endP alB s i - i then none
    else some (⟨if isWordP (s.extract i (endP alB s i)) then 4 else 0, s.extract i (endP alB s i), 0, line⟩, endP alB s i)
  else if digitB (byt s i) then
    if 9 < endP digitB s i - i then none
    else some (⟨1, ByteArray.empty, numP s i (endP digitB s i - i), line⟩, endP digitB s i)
  else if byt s i = 34 then
    if endP textB s (i + 1) < s.size ∧ byt s (endP textB s (i + 1)) = 34 then some (⟨2, s.extract (i + 1) (endP textB s (i + 1)), 0, line⟩, endP textB s (i + 1) + 1)
    else none
  else if twoB s i then some (⟨3, s.extract i (i + 2), 0, line⟩, i + 2)
  else if signB (byt s i) then some (⟨3, s.extract i (i + 1), 0, line⟩, i + 1)
  else none

theorem tokP_range {s : ByteArray} {i line : Nat} {t : Tok} {k : Nat} (h : tokP s i line = some (t, k)) (hi : i < s.size) : i < k ∧ k ≤ s.size ∧ t.line = line := by
  unfold tokP at h
  have g1 := endP_ge alB s (i + 1)
  have g2 := endP_ge digitB s (i + 1)
  have g3 := endP_ge textB s (i + 1)
  have l1 := endP_le alB s i (by omega)
  have l2 := endP_le digitB s i (by omega)
  split at h
  · rename_i hl
    have : endP alB s i = endP alB s (i + 1) := endP_go hi (by simp [alB, hl])
    split at h
    · simp at h
    · simp only [Option.some.injEq, Prod.mk.injEq] at h
      obtain ⟨rfl, rfl⟩ := h
      exact ⟨by omega, l1, rfl⟩
  · split at h
    · rename_i hl
      have : endP digitB s i = endP digitB s (i + 1) := endP_go hi hl
      split at h
      · simp at h
      · simp only [Option.some.injEq, Prod.mk.injEq] at h
        obtain ⟨rfl, rfl⟩ := h
        exact ⟨by omega, l2, rfl⟩
    · split at h
      · split at h
        · simp only [Option.some.injEq, Prod.mk.injEq] at h
          obtain ⟨rfl, rfl⟩ := h
          exact ⟨by omega, by omega, rfl⟩
        · simp at h
      · split at h
        · rename_i ht
          simp only [Option.some.injEq, Prod.mk.injEq] at h
          obtain ⟨rfl, rfl⟩ := h
          simp only [twoB, decide_eq_true_eq] at ht
          exact ⟨by omega, by omega, rfl⟩
        · split at h
          · simp only [Option.some.injEq, Prod.mk.injEq] at h
            obtain ⟨rfl, rfl⟩ := h
            exact ⟨by omega, by omega, rfl⟩
          · simp at h

/-- the words from a place on, or the line where there is none -/
def lexP (s : ByteArray) (i line : Nat) : Except Nat (List Tok) :=
  if _h : i < s.size then
    if byt s i = 32 then lexP s (i + 1) line
    else if byt s i = 10 then lexP s (i + 1) (line + 1)
    else if byt s i = 35 then
      if _h2 : i < endP noteB s i then lexP s (endP noteB s i) line else .error 0
    else match tokP s i line with
      | none => .error line
      | some (t, k) => if _h3 : i < k then (lexP s k line).map (t :: ·) else .error 0
  else .ok []
  termination_by s.size - i

theorem lexP_out {s : ByteArray} {i line : Nat} (h : s.size ≤ i) : lexP s i line = .ok [] := by
  rw [lexP, dif_neg (by omega)]
theorem lexP_blank {s : ByteArray} {i line : Nat} (h : i < s.size) (hb : byt s i = 32) : lexP s i line = lexP s (i + 1) line := by
  rw [lexP, dif_pos h, if_pos hb]
theorem lexP_newline {s : ByteArray} {i line : Nat} (h : i < s.size) (hb : byt s i = 10) : lexP s i line = lexP s (i + 1) (line + 1) := by
  rw [lexP, dif_pos h, if_neg (by omega), if_pos hb]
theorem noteEnd_gt {s : ByteArray} {i : Nat} (h : i < s.size) (hb : byt s i = 35) : i < endP noteB s i := by
  rw [endP_go h (by simp [noteB, hb])]
  have := endP_ge noteB s (i + 1)
  omega
theorem lexP_note {s : ByteArray} {i line : Nat} (h : i < s.size) (hb : byt s i = 35) : lexP s i line = lexP s (endP noteB s i) line := by
  rw [lexP, dif_pos h, if_neg (by omega), if_neg (by omega), if_pos hb, dif_pos (noteEnd_gt h hb)]
theorem lexP_none {s : ByteArray} {i line : Nat} (h : i < s.size) (h1 : byt s i ≠ 32) (h2 : byt s i ≠ 10) (h3 : byt s i ≠ 35) (ht : tokP s i line = none) : lexP s i line = .error line := by
  rw [lexP, dif_pos h, if_neg h1, if_neg h2, if_neg h3, ht]
theorem lexP_some {s : ByteArray} {i line : Nat} {t : Tok} {k : Nat} (h : i < s.size) (h1 : byt s i ≠ 32) (h2 : byt s i ≠ 10) (h3 : byt s i ≠ 35) (ht : tokP s i line = some (t, k)) : lexP s i line = (lexP s k line).map (t :: ·) := by
  rw [lexP, dif_pos h, if_neg h1, if_neg h2, if_neg h3, ht]
  exact dif_pos (tokP_range ht h).1

/-- what Lex answers -/
def lexA (s : ByteArray) : List Tok × Nat :=
  if 3000 < s.size then ([], 1) else match lexP s 0 1 with
    | .ok l => (l, 0)
    | .error n => ([], n)

/-- what is still to be read, behind what has been read -/
def Rest (s : ByteArray) (acc : List Tok) (i line : Nat) : Prop := lexP s 0 1 = (lexP s i line).map (acc ++ ·)
theorem Rest.start (s : ByteArray) : Rest s [] 0 1 := by
  unfold Rest
  cases lexP s 0 1 <;> simp [Except.map]
theorem Rest.same {s : ByteArray} {acc : List Tok} {i line i' line' : Nat} (h : Rest s acc i line) (e : lexP s i line = lexP s i' line') : Rest s acc i' line' := by
  unfold Rest at h ⊢
  rw [h, e]
theorem Rest.go {s : ByteArray} {acc : List Tok} {i line : Nat} {t : Tok} {k : Nat} (h : Rest s acc i line) (e : lexP s i line = (lexP s k line).map (t :: ·)) : Rest s (acc ++ [t]) k line := by
  unfold Rest at h ⊢
  rw [h, e]
  cases lexP s k line <;> simp [Except.map]
theorem Rest.no {s : ByteArray} {acc : List Tok} {i line n : Nat} (h : Rest s acc i line) (e : lexP s i line = .error n) (hs : s.size ≤ 3000) : lexA s = ([], n) := by
  unfold Rest at h
  rw [e] at h
  unfold lexA
  rw [if_neg (by omega), h]
  rfl
theorem Rest.done {s : ByteArray} {acc : List Tok} {i line : Nat} (h : Rest s acc i line) (e : lexP s i line = .ok []) (hs : s.size ≤ 3000) : lexA s = (acc, 0) := by
  unfold Rest at h
  rw [e] at h
  unfold lexA
  rw [if_neg (by omega), h]
  simp [Except.map]

end Go.Proofs.YtihpdngpedgjhaaDoor.Lx

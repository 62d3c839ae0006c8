/-
  What a value that holds a list of words is; and readWord's contract over them.
-/
import Derived.Test.YtihpdngpedgjhaaDoorReadT
namespace Go.Proofs.YtihpdngpedgjhaaDoor
open Go.RowKit

theorem Tryd.infoTok : (Tryd.prog.info? 35).map (fun i => (i.zero, i.size, i.bytes)) = some (some (.agg #[.int .i64 0, .string ⟨#[]⟩, .int .i64 0, .int .i64 0]), 4, 40) := by kernel_rfl

def toksV (ts : List Lx.Tok) : List Value := ts.flatMap tokC
theorem toksV_length (ts : List Lx.Tok) : (toksV ts).length = ts.length * 4 := by
  induction ts with
  | nil => rfl
  | cons t r ih =>
    have : toksV (t :: r) = tokC t ++ toksV r := rfl
    rw [this, List.length_append, ih]
    simp [tokC]
    omega
theorem toksV_snoc (ts : List Lx.Tok) (t : Lx.Tok) : toksV (ts ++ [t]) = toksV ts ++ tokC t := by
  simp [toksV]
theorem toksV_get (ts : List Lx.Tok) (k j : Nat) (hk : k < ts.length) (hj : j < 4) : (toksV ts)[k * 4 + j]? = (tokC ts[k])[j]? := by
  induction ts generalizing k with
  | nil => simp at hk
  | cons t r ih =>
    have e : toksV (t :: r) = tokC t ++ toksV r := rfl
    have hl : (tokC t).length = 4 := rfl
    cases k with
    | zero =>
      rw [e, List.getElem?_append_left (by omega)]
      simp
    | succ k =>
      rw [e, List.getElem?_append_right (by omega), hl, show (k + 1) * 4 + j - 4 = k * 4 + j from by omega, ih k (by simpa using hk)]
      simp

theorem cell_four_new (w : World) (a b c d : Value) (t : TypeId) : ∀ j u, [a, b, c, d][j]? = some u → (w.alloc (.cells #[a, b, c, d] t)).cell? ((⟨w.heap.size, 0, none⟩ : Addr).add j) = some u := by
  intro j u hj
  match j, hj with
  | 0, hj => simp at hj; subst hj; simp [Addr.add]
  | 1, hj => simp at hj; subst hj; simp [Addr.add]
  | 2, hj => simp at hj; subst hj; simp [Addr.add]
  | 3, hj => simp at hj; subst hj; simp [Addr.add]
  | j + 4, hj => simp at hj

theorem slice_own {w : World} {B e z : Nat} {v : Value} {n : Nat} {xs : List Value} (h : w.ownsRow B e z v n xs) : ∃ a cap, v = .slice a n cap := by
  rcases h.2 with ⟨rfl, h0⟩ | ⟨g, cap, cur, hv, _⟩
  · exact ⟨none, 0, by rw [h0]⟩
  · exact ⟨_, cap, hv⟩

theorem kept_below {w w' : World} {B e z : Nat} {v : Value} {n : Nat} {xs : List Value} (h : w.ownsRow B e z v n xs) (hb : Below w.heap.size w w') : w'.ownsRow B e z v n xs :=
  h.kept (row := none) ⟨hb.os, hb.tape, hb.output, hb.size, fun k hk _ => hb.block k hk⟩ (Classical.em _)

theorem step_tok {B : Nat} {w wr w1 : World} {v v' : Value} {o : Obj} {acc : List Lx.Tok} {p : Lx.Tok} (hBw : B ≤ wr.heap.size)
    (hown : wr.ownsRow B 35 4 v acc.length (toksV acc)) (hnx : Below B w wr)
    (hown' : w1.ownsRow B 35 4 v' (acc.length + 1) (toksV acc ++ tokC p)) (hgrow : (wr.alloc o).grownBy w1 v.ownBlock) :
    w1.ownsRow B 35 4 v' (acc ++ [p]).length (toksV (acc ++ [p])) ∧ Below B w w1 ∧ B ≤ w1.heap.size := by
  have hB1 : Below B w w1 := (hnx.alloc (by omega) o).grown hgrow (by simp; omega) (fun j hj => (hown.lt j hj).1)
  refine ⟨by simpa [toksV_snoc] using hown', hB1, ?_⟩
  have := hgrow.size
  simp at this
  omega

theorem Lx.Rest.err {s : ByteArray} {acc : List Lx.Tok} {i line n : Nat} (h : Lx.Rest s acc i line) (e : Lx.lexP s i line = .error n) : Lx.lexP s 0 1 = .error n := by
  unfold Lx.Rest at h
  rw [h, e]
  rfl
theorem Lx.Rest.fin {s : ByteArray} {acc : List Lx.Tok} {i line : Nat} (h : Lx.Rest s acc i line) (e : Lx.lexP s i line = .ok []) : Lx.lexP s 0 1 = .ok acc := by
  unfold Lx.Rest at h
  rw [h, e]
  simp [Except.map]

theorem cls6 (b : Nat) : Lx.cls b = 6 ↔ b = 34 := by
  constructor
  · intro h
    unfold Lx.cls at h
    revert h
    repeat' split
    all_goals omega
  · intro h; rw [h]; rfl
theorem cls7 (b : Nat) : Lx.cls b = 7 ↔ (b = 45 ∨ Lx.signB b = true) := by
  constructor
  · intro h
    unfold Lx.cls at h
    revert h
    repeat' split
    all_goals first | omega | (intro _; assumption)
  · rintro (h | h)
    · rw [h]; rfl
    · simp [Lx.signB] at h
      rcases h with h | h | h | h | h | h | h | h | h | h <;> (rw [h]; rfl)
theorem sign_what (b : Nat) (h : Lx.signB b = true) : Lx.letterB b = false ∧ Lx.digitB b = false ∧ b ≠ 34 ∧ b ≠ 45 := by
  simp [Lx.signB] at h
  rcases h with h | h | h | h | h | h | h | h | h | h <;> (rw [h]; decide)
theorem two_what (s : ByteArray) (i : Nat) (h : Lx.twoB s i = true) : Lx.cls (Lx.byt s i) = 7 := by
  simp only [Lx.twoB, decide_eq_true_eq] at h
  rcases h.2 with h | h <;> (rw [h.1]; rfl)

/-- readWord where a word begins -/
theorem readYes (s : ByteArray) (i line : Nat) (t : Lx.Tok) (k : Nat) (w : World) (hs : s.size ≤ 3000) (hi : i < s.size) (hc : ClsIs w) (h : Lx.tokP s i line = some (t, k)) :
    Calls Tryd.prog 29 #[.string s, .int .i64 i, .int .i64 line] w fun e w' => e = .returned (.tuple #[tokV t, .int .i64 (k : Nat)]) ∧ Below w.heap.size w w' := by
  unfold Lx.tokP at h
  by_cases c1 : Lx.letterB (Lx.byt s i) = true
  · rw [if_pos c1] at h
    by_cases c2 : 12 < Lx.endP Lx.alB s i - i
    · rw [if_pos c2] at h; cases h
    · rw [if_neg c2] at h
      cases h
      exact readLetter s i line _ w hs hi hc c1 rfl (by omega)
  · rw [if_neg c1] at h
    by_cases c3 : Lx.digitB (Lx.byt s i) = true
    · rw [if_pos c3] at h
      by_cases c2 : 9 < Lx.endP Lx.digitB s i - i
      · rw [if_pos c2] at h; cases h
      · rw [if_neg c2] at h
        cases h
        exact readDigit s i line _ w hs hi hc c3 rfl (by omega)
    · rw [if_neg c3] at h
      by_cases c4 : Lx.byt s i = 34
      · rw [if_pos c4] at h
        by_cases c2 : Lx.endP Lx.textB s (i + 1) < s.size ∧ Lx.byt s (Lx.endP Lx.textB s (i + 1)) = 34
        · rw [if_pos c2] at h
          cases h
          exact readQuote s i line _ w hs hi hc c4 rfl c2.1 c2.2
        · rw [if_neg c2] at h; cases h
      · rw [if_neg c4] at h
        by_cases c5 : Lx.twoB s i = true
        · rw [if_pos c5] at h
          cases h
          exact readSign2 s i line w hs hi hc (two_what s i c5) c5
        · rw [if_neg c5] at h
          by_cases c6 : Lx.signB (Lx.byt s i) = true
          · rw [if_pos c6] at h
            cases h
            exact readSign1 s i line w hs hi hc ((cls7 _).2 (.inr c6)) (by simpa using c5) (sign_what _ c6).2.2.2
          · rw [if_neg c6] at h; cases h

/-- readWord where none begins -/
theorem readNo (s : ByteArray) (i line : Nat) (w : World) (hs : s.size ≤ 3000) (hi : i < s.size) (hc : ClsIs w) (h : Lx.tokP s i line = none) :
    Calls Tryd.prog 29 #[.string s, .int .i64 i, .int .i64 line] w fun e w' => e = noWordE line ∧ Below w.heap.size w w' := by
  unfold Lx.tokP at h
  by_cases c1 : Lx.letterB (Lx.byt s i) = true
  · rw [if_pos c1] at h
    by_cases c2 : 12 < Lx.endP Lx.alB s i - i
    · exact readLetter_no s i line _ w hs hi hc c1 rfl c2
    · rw [if_neg c2] at h; cases h
  · rw [if_neg c1] at h
    by_cases c3 : Lx.digitB (Lx.byt s i) = true
    · rw [if_pos c3] at h
      by_cases c2 : 9 < Lx.endP Lx.digitB s i - i
      · exact readDigit_no s i line _ w hs hi hc c3 rfl c2
      · rw [if_neg c2] at h; cases h
    · rw [if_neg c3] at h
      by_cases c4 : Lx.byt s i = 34
      · rw [if_pos c4] at h
        by_cases c2 : Lx.endP Lx.textB s (i + 1) < s.size ∧ Lx.byt s (Lx.endP Lx.textB s (i + 1)) = 34
        · rw [if_pos c2] at h; cases h
        · exact readQuote_no s i line w hs hi hc c4 c2
      · rw [if_neg c4] at h
        by_cases c5 : Lx.twoB s i = true
        · rw [if_pos c5] at h; cases h
        · rw [if_neg c5] at h
          by_cases c6 : Lx.signB (Lx.byt s i) = true
          · rw [if_pos c6] at h; cases h
          · by_cases c7 : Lx.byt s i = 45
            · exact readSign_no s i line w hs hi hc c7 (by simpa using c5)
            · refine readNone s i line w hi hc ?_ ?_ ?_ ?_
              · rw [ne_eq, cls4]; exact c1
              · rw [ne_eq, cls5]; exact c3
              · rw [ne_eq, cls6]; exact c4
              · rw [ne_eq, cls7]; rintro (h | h)
                · exact c7 h
                · exact c6 h

end Go.Proofs.YtihpdngpedgjhaaDoor

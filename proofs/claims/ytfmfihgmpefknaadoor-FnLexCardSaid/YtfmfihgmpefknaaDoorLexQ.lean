/-
  Words, plainly: blanks around a text change nothing; a name that is told is a name; lines never go back. No program here but its bytes.
-/
import Derived.Test.YtfmfihgmpefknaaDoorReadW
namespace Go.Proofs.YtfmfihgmpefknaaDoor
open Go.RowKit

theorem ba_ext (a b : ByteArray) (h : a.size = b.size) (h2 : ∀ k, k < a.size → Lx.byt a k = Lx.byt b k) : a = b := by
  apply ByteArray.ext
  apply Array.ext
  · exact h
  · intro i hi hj
    have := h2 i hi
    rw [← Lx.byt_eq a i hi, ← Lx.byt_eq b i (by rw [← h]; exact hi)] at this
    exact UInt8.toNat_inj.1 this

theorem byt_app_left (a b : ByteArray) (k : Nat) (h : k < a.size) : Lx.byt (a ++ b) k = Lx.byt a k := by
  unfold Lx.byt
  rw [dif_pos (by rw [ByteArray.size_append]; omega), dif_pos h, ByteArray.getElem_append_left h]
theorem byt_app_right (a b : ByteArray) (k : Nat) (h : k < b.size) : Lx.byt (a ++ b) (a.size + k) = Lx.byt b k := by
  unfold Lx.byt
  rw [dif_pos (by rw [ByteArray.size_append]; omega), dif_pos h, ByteArray.getElem_append_right (by omega)]
  congr 2
  omega

/-- a text with a blank ahead, a newline and a blank behind -/
def wide (s : ByteArray) : ByteArray := (⟨#[32]⟩ : ByteArray) ++ s ++ ⟨#[10, 32]⟩
theorem wide_size (s : ByteArray) : (wide s).size = s.size + 3 := by
  unfold wide
  rw [ByteArray.size_append, ByteArray.size_append]
  have h1 : (⟨#[32]⟩ : ByteArray).size = 1 := rfl
  have h2 : (⟨#[10, 32]⟩ : ByteArray).size = 2 := rfl
  omega
theorem wide_first (s : ByteArray) : Lx.byt (wide s) 0 = 32 := by
  have h1 : (⟨#[32]⟩ : ByteArray).size = 1 := rfl
  unfold wide
  rw [byt_app_left _ _ 0 (by rw [ByteArray.size_append]; omega), byt_app_left _ _ 0 (by omega)]
  rfl
theorem wide_in (s : ByteArray) (k : Nat) (h : k < s.size) : Lx.byt (wide s) (k + 1) = Lx.byt s k := by
  have h1 : (⟨#[32]⟩ : ByteArray).size = 1 := rfl
  unfold wide
  rw [byt_app_left _ _ (k + 1) (by rw [ByteArray.size_append]; omega)]
  have := byt_app_right (⟨#[32]⟩ : ByteArray) s k h
  rw [h1, Nat.add_comm] at this
  exact this
theorem wide_newline (s : ByteArray) : Lx.byt (wide s) (s.size + 1) = 10 := by
  have h1 : ((⟨#[32]⟩ : ByteArray) ++ s).size = s.size + 1 := by rw [ByteArray.size_append]; have : (⟨#[32]⟩ : ByteArray).size = 1 := rfl; omega
  have := byt_app_right ((⟨#[32]⟩ : ByteArray) ++ s) ⟨#[10, 32]⟩ 0 (by decide)
  rw [h1] at this
  exact this
theorem wide_last (s : ByteArray) : Lx.byt (wide s) (s.size + 2) = 32 := by
  have h1 : ((⟨#[32]⟩ : ByteArray) ++ s).size = s.size + 1 := by rw [ByteArray.size_append]; have : (⟨#[32]⟩ : ByteArray).size = 1 := rfl; omega
  have := byt_app_right ((⟨#[32]⟩ : ByteArray) ++ s) ⟨#[10, 32]⟩ 1 (by decide)
  rw [h1] at this
  exact this

theorem wide_end (p : Nat → Bool) (hp : p 10 = false) (s : ByteArray) (i : Nat) (h : i ≤ s.size) : Lx.endP p (wide s) (i + 1) = Lx.endP p s i + 1 := by
  have hz := wide_size s
  fun_induction Lx.endP p s i with
  | case1 i hi hpi ih =>
    rw [Lx.endP_go (by omega) (by rw [wide_in s i hi]; exact hpi)]
    exact ih (by omega)
  | case2 i hi hpi => exact Lx.endP_no (by rw [wide_in s i hi]; simpa using hpi)
  | case3 i hi =>
    have e : i = s.size := by omega
    subst e
    exact Lx.endP_no (by rw [wide_newline]; exact hp)

theorem wide_extract (s : ByteArray) (i k : Nat) (hk : k ≤ s.size) : (wide s).extract (i + 1) (k + 1) = s.extract i k := by
  have hz := wide_size s
  by_cases hik : i ≤ k
  · have e1 : ((wide s).extract (i + 1) (k + 1)).size = k - i := by rw [ByteArray.size_extract]; omega
    have e2 : (s.extract i k).size = k - i := by rw [ByteArray.size_extract]; omega
    apply ba_ext _ _ (by omega)
    intro j hj
    rw [e1] at hj
    rw [byt_extract _ _ _ _ (by omega) (by omega), byt_extract _ _ _ _ (by omega) hk, show i + 1 + j = (i + j) + 1 from by omega, wide_in s _ (by omega)]
  · have e1 : ((wide s).extract (i + 1) (k + 1)).size = 0 := by rw [ByteArray.size_extract]; omega
    have e2 : (s.extract i k).size = 0 := by rw [ByteArray.size_extract]; omega
    exact ba_ext _ _ (by omega) (fun j hj => by omega)

theorem wide_num (s : ByteArray) (i : Nat) : ∀ k, i + k ≤ s.size → Lx.numP (wide s) (i + 1) k = Lx.numP s i k := by
  intro k
  induction k with
  | zero => intro _; rfl
  | succ k ih =>
    intro h
    rw [Lx.numP, Lx.numP, ih (by omega), show i + 1 + k = (i + k) + 1 from by omega, wide_in s _ (by omega)]

theorem wide_two (s : ByteArray) (i : Nat) (h : i < s.size) : Lx.twoB (wide s) (i + 1) = Lx.twoB s i := by
  have hz := wide_size s
  unfold Lx.twoB
  rw [wide_in s i h, hz]
  by_cases h2 : i + 1 < s.size
  · rw [wide_in s (i + 1) h2, Bool.eq_iff_iff]
    simp
    omega
  · have e : i + 1 = s.size := by omega
    rw [show i + 1 + 1 = s.size + 1 from by omega, wide_newline, decide_eq_false (by omega), decide_eq_false (by omega)]

theorem wide_tok (s : ByteArray) (i line : Nat) (t : Lx.Tok) (k : Nat) (hi : i < s.size) (h : Lx.tokP s i line = some (t, k)) : Lx.tokP (wide s) (i + 1) line = some (t, k + 1) := by
  have hz := wide_size s
  have hb := wide_in s i hi
  unfold Lx.tokP at h ⊢
  rw [hb]
  by_cases c1 : Lx.letterB (Lx.byt s i) = true
  · rw [if_pos c1] at h ⊢
    have hl := Lx.endP_le Lx.alB s i (by omega)
    rw [wide_end Lx.alB rfl s i (by omega), wide_extract s i _ hl, show Lx.endP Lx.alB s i + 1 - (i + 1) = Lx.endP Lx.alB s i - i from by omega]
    by_cases c2 : 12 < Lx.endP Lx.alB s i - i
    · rw [if_pos c2] at h; cases h
    · rw [if_neg c2] at h ⊢
      cases h
      rfl
  · rw [if_neg c1] at h ⊢
    by_cases c3 : Lx.digitB (Lx.byt s i) = true
    · rw [if_pos c3] at h ⊢
      have hl := Lx.endP_le Lx.digitB s i (by omega)
      have hg := Lx.endP_ge Lx.digitB s i
      rw [wide_end Lx.digitB rfl s i (by omega), show Lx.endP Lx.digitB s i + 1 - (i + 1) = Lx.endP Lx.digitB s i - i from by omega, wide_num s i _ (by omega)]
      by_cases c2 : 9 < Lx.endP Lx.digitB s i - i
      · rw [if_pos c2] at h; cases h
      · rw [if_neg c2] at h ⊢
        cases h
        rfl
    · rw [if_neg c3] at h ⊢
      by_cases c4 : Lx.byt s i = 34
      · rw [if_pos c4] at h ⊢
        have hl := Lx.endP_le Lx.textB s (i + 1) (by omega)
        rw [wide_end Lx.textB rfl s (i + 1) (by omega)]
        by_cases c2 : Lx.endP Lx.textB s (i + 1) < s.size ∧ Lx.byt s (Lx.endP Lx.textB s (i + 1)) = 34
        · rw [if_pos c2] at h
          rw [if_pos ⟨by omega, by rw [wide_in s _ c2.1]; exact c2.2⟩, wide_extract s (i + 1) _ hl]
          cases h
          rfl
        · rw [if_neg c2] at h; cases h
      · rw [if_neg c4] at h ⊢
        rw [wide_two s i hi]
        by_cases c5 : Lx.twoB s i = true
        · rw [if_pos c5] at h ⊢
          have h2 : i + 1 < s.size := by simp only [Lx.twoB, decide_eq_true_eq] at c5; exact c5.1
          rw [show i + 1 + 2 = (i + 2) + 1 from by omega, wide_extract s i (i + 2) (by omega)]
          cases h
          rfl
        · rw [if_neg c5] at h ⊢
          by_cases c6 : Lx.signB (Lx.byt s i) = true
          · rw [if_pos c6] at h ⊢
            rw [wide_extract s i (i + 1) (by omega)]
            cases h
            rfl
          · rw [if_neg c6] at h; cases h

theorem wide_lex (s : ByteArray) (i line : Nat) (l : List Lx.Tok) (hi : i ≤ s.size) (h : Lx.lexP s i line = .ok l) : Lx.lexP (wide s) (i + 1) line = .ok l := by
  have hz := wide_size s
  fun_induction Lx.lexP s i line generalizing l with
  | case1 i line hlt hb ih =>
    rw [Lx.lexP_blank (by omega) (by rw [wide_in s i hlt]; exact hb)]
    exact ih l (by omega) h
  | case2 i line hlt h1 hb ih =>
    rw [Lx.lexP_newline (by omega) (by rw [wide_in s i hlt]; exact hb)]
    exact ih l (by omega) h
  | case3 i line hlt h1 h2 hb hg ih =>
    rw [Lx.lexP_note (by omega) (by rw [wide_in s i hlt]; exact hb), wide_end Lx.noteB rfl s i (by omega)]
    exact ih l (Lx.endP_le Lx.noteB s i (by omega)) h
  | case4 => cases h
  | case5 => cases h
  | case6 i line hlt h1 h2 h3 t k ht hg ih =>
    cases hq : Lx.lexP s k line with
    | error n => rw [hq] at h; cases h
    | ok r =>
      rw [hq] at h
      cases h
      have hb := wide_in s i hlt
      rw [Lx.lexP_some (by omega) (by rw [hb]; exact h1) (by rw [hb]; exact h2) (by rw [hb]; exact h3) (wide_tok s i line t k hlt ht), ih r (Lx.tokP_range ht hlt).2.1 hq]
      rfl
  | case7 => cases h
  | case8 i line hge =>
    cases h
    have e : i = s.size := by omega
    subst e
    rw [Lx.lexP_newline (by omega) (wide_newline s), Lx.lexP_blank (by omega) (wide_last s), Lx.lexP_out (by omega)]

/-- blanks around change nothing -/
theorem wide_all (s : ByteArray) (l : List Lx.Tok) (hs : s.size + 3 ≤ 3000) (h : Lx.lexA s = (l, 0)) (hn : ∀ n, Lx.lexP s 0 1 = .error n → n ≠ 0) : Lx.lexA (wide s) = (l, 0) := by
  have hz := wide_size s
  have h1 : Lx.lexP s 0 1 = .ok l := by
    unfold Lx.lexA at h
    rw [if_neg (by omega)] at h
    cases hq : Lx.lexP s 0 1 with
    | error n => rw [hq] at h; cases h; exact absurd rfl (hn 0 hq)
    | ok r => rw [hq] at h; cases h; rfl
  unfold Lx.lexA
  rw [if_neg (by omega), Lx.lexP_blank (by omega) (wide_first s), wide_lex s 0 1 l (Nat.zero_le _) h1]

theorem lexP_err (s : ByteArray) (i line n : Nat) (h : Lx.lexP s i line = .error n) (hl : 1 ≤ line) : 1 ≤ n := by
  fun_induction Lx.lexP s i line with
  | case1 i line hlt hb ih => exact ih h hl
  | case2 i line hlt h1 hb ih => exact ih h (by omega)
  | case3 i line hlt h1 h2 hb hg ih => exact ih h hl
  | case4 i line hlt h1 h2 hb hg => exact absurd (Lx.noteEnd_gt hlt hb) hg
  | case5 i line hlt h1 h2 h3 ht => cases h; exact hl
  | case6 i line hlt h1 h2 h3 t k ht hg ih =>
    cases hq : Lx.lexP s k line with
    | error m => rw [hq] at h; cases h; exact ih hq hl
    | ok r => rw [hq] at h; cases h
  | case7 i line hlt h1 h2 h3 t k ht hg => exact absurd (Lx.tokP_range ht hlt).1 hg
  | case8 => cases h

/-- lines never go back -/
def Asc : Nat → List Lx.Tok → Prop
  | _, [] => True
  | b, t :: r => b ≤ t.line ∧ Asc t.line r
theorem Asc.mono {a b : Nat} {l : List Lx.Tok} (h : Asc b l) (hab : a ≤ b) : Asc a l := by
  cases l with
  | nil => trivial
  | cons t r => exact ⟨Nat.le_trans hab h.1, h.2⟩
theorem Asc.at {b : Nat} {l : List Lx.Tok} (h : Asc b l) (k : Nat) (hk : k + 1 < l.length) : l[k].line ≤ l[k + 1].line := by
  induction l generalizing b k with
  | nil => simp at hk
  | cons t r ih =>
    cases k with
    | zero =>
      cases r with
      | nil => simp at hk
      | cons u r => exact h.2.1
    | succ k => exact ih h.2 k (by simpa using hk)

theorem tok_name (s : ByteArray) (i line : Nat) (t : Lx.Tok) (k : Nat) (hi : i < s.size) (h : Lx.tokP s i line = some (t, k)) (h0 : t.kind = 0) : Lx.nameOkP t.text = true := by
  unfold Lx.tokP at h
  by_cases c1 : Lx.letterB (Lx.byt s i) = true
  · rw [if_pos c1] at h
    have hl := Lx.endP_le Lx.alB s i (by omega)
    have hg : i < Lx.endP Lx.alB s i := by
      rw [Lx.endP_go hi (by simp [Lx.alB, c1])]
      have := Lx.endP_ge Lx.alB s (i + 1)
      omega
    by_cases c2 : 12 < Lx.endP Lx.alB s i - i
    · rw [if_pos c2] at h; cases h
    · rw [if_neg c2] at h
      cases h
      have hin := Lx.endP_in Lx.alB s i
      generalize Lx.endP Lx.alB s i = E at *
      have hz : (s.extract i E).size = E - i := by rw [ByteArray.size_extract]; omega
      have hw : Lx.isWordP (s.extract i E) = false := by
        cases hq : Lx.isWordP (s.extract i E)
        · rfl
        · simp [hq] at h0
      have e1 : Lx.letterB (Lx.byt (s.extract i E) 0) = true := by rw [byt_extract s i E 0 (by omega) hl]; exact c1
      have e2 : Lx.endP Lx.alB (s.extract i E) 0 = (s.extract i E).size := endP_all (Nat.zero_le _) fun j _ hj => by
        rw [byt_extract s i E j (by omega) hl]
        exact hin (i + j) (by omega) (by omega)
      unfold Lx.nameOkP
      rw [e1, e2, hw, decide_eq_true (show 1 ≤ (s.extract i E).size ∧ (s.extract i E).size ≤ 12 by omega)]
      simp
  · rw [if_neg c1] at h
    repeat' split at h
    all_goals first | (cases h; simp at h0) | cases h

theorem lexP_fine (s : ByteArray) (i line : Nat) (l : List Lx.Tok) (h : Lx.lexP s i line = .ok l) : Asc line l ∧ ∀ t ∈ l, t.kind = 0 → Lx.nameOkP t.text = true := by
  fun_induction Lx.lexP s i line generalizing l with
  | case1 i line hlt hb ih => exact ih l h
  | case2 i line hlt h1 hb ih => exact ⟨(ih l h).1.mono (by omega), (ih l h).2⟩
  | case3 i line hlt h1 h2 hb hg ih => exact ih l h
  | case4 => cases h
  | case5 => cases h
  | case6 i line hlt h1 h2 h3 t k ht hg ih =>
    cases hq : Lx.lexP s k line with
    | error n => rw [hq] at h; cases h
    | ok r =>
      rw [hq] at h
      cases h
      have hl : t.line = line := (Lx.tokP_range ht hlt).2.2
      refine ⟨⟨by omega, by rw [hl]; exact (ih r hq).1⟩, fun u hu h0 => ?_⟩
      rcases List.mem_cons.1 hu with rfl | hu
      · exact tok_name s i line _ k hlt ht h0
      · exact (ih r hq).2 u hu h0
  | case7 => cases h
  | case8 => cases h; exact ⟨trivial, fun t ht => by simp at ht⟩

theorem lexA_fine (s : ByteArray) : ((Lx.lexA s).2 ≠ 0 → (Lx.lexA s).1 = [] ∧ 1 ≤ (Lx.lexA s).2) ∧ Asc 1 (Lx.lexA s).1 ∧ (∀ t ∈ (Lx.lexA s).1, t.kind = 0 → Lx.nameOkP t.text = true) := by
  unfold Lx.lexA
  by_cases h : 3000 < s.size
  · rw [if_pos h]
    exact ⟨fun _ => ⟨rfl, Nat.le_refl _⟩, trivial, fun t ht => by simp at ht⟩
  · rw [if_neg h]
    cases hq : Lx.lexP s 0 1 with
    | error n => exact ⟨fun _ => ⟨rfl, lexP_err s 0 1 n hq (Nat.le_refl _)⟩, trivial, fun t ht => by simp at ht⟩
    | ok r => exact ⟨fun h0 => absurd rfl h0, lexP_fine s 0 1 r hq⟩

theorem wide_same (s : ByteArray) (hs : s.size + 3 ≤ 3000) (h : (Lx.lexA s).2 = 0) : Lx.lexA (wide s) = Lx.lexA s := by
  have e : Lx.lexA s = ((Lx.lexA s).1, 0) := by rw [← h]
  rw [e]
  exact wide_all s _ hs e fun n hn h0 => by
    have := lexP_err s 0 1 n hn (Nat.le_refl _)
    omega

end Go.Proofs.YtfmfihgmpefknaaDoor

/-
  The walks of impl.GetText and spec.GetText: each answers the text whose bytes stand at the place, and the place behind it.
-/
import Derived.Test.YticcdaohpbkjeaaGetNumS
import Derived.Test.YticcdaohpbkjeaaCloneLib
namespace Go.Proofs.Yticcdaohpbkjeaa
open Go.RowKit

theorem Plain.chain_len (f : Nat) (l p : List Nat) (b : Nat) (h : Plain.chain f l = some (p, b)) : p.length + 1 ≤ l.length := by
  induction f generalizing l p b with
  | zero => simp [Plain.chain] at h
  | succ f ih =>
    cases l with
    | nil => simp [Plain.chain] at h
    | cons x r =>
      rw [Plain.chain] at h
      by_cases hx : x < 128
      · rw [if_pos hx] at h
        simp at h
        have e := h.1
        subst e
        simp
      · rw [if_neg hx] at h
        simp only [Option.map_eq_some_iff] at h
        obtain ⟨⟨q, c⟩, hq, he⟩ := h
        have := ih r q c hq
        simp at he
        rw [← he.1]
        simp
        omega

theorem Plain.getN_range (l : List Nat) (i : Nat) : Plain.getN l i = (0, -1) ∨ (0 ≤ (Plain.getN l i).1 ∧ (Plain.getN l i).1 ≤ 999999999 ∧ 1 ≤ (Plain.getN l i).2 ∧ (Plain.getN l i).2 ≤ l.length) := by
  unfold Plain.getN
  cases hc : Plain.chain 5 (l.drop i) with
  | none => exact .inl rfl
  | some y =>
    obtain ⟨p, b⟩ := y
    have hl := Plain.chain_len 5 _ p b hc
    simp only
    by_cases hcond : (b = 0 ∧ p ≠ []) ∨ 999999999 < Plain.dec (p ++ [b])
    · rw [if_pos hcond]; exact .inl rfl
    · rw [if_neg hcond]
      right
      simp at hl
      simp only [not_or] at hcond
      refine ⟨?_, ?_, ?_, ?_⟩
      · simp
      · have := hcond.2; simp only; omega
      · simp only; omega
      · simp only; omega

/-- GetNum's answer at any place -/
def getNI (s : ByteArray) (i : Int) : Int × Int := if i < 0 then (0, -1) else Plain.getN (bytesN s) i.toNat

theorem getNI_range (s : ByteArray) (i : Int) : getNI s i = (0, -1) ∨ (0 ≤ (getNI s i).1 ∧ (getNI s i).1 ≤ 999999999 ∧ 1 ≤ (getNI s i).2 ∧ (getNI s i).2 ≤ s.size) := by
  unfold getNI
  by_cases h : i < 0
  · rw [if_pos h]; exact .inl rfl
  · rw [if_neg h]
    have := Plain.getN_range (bytesN s) i.toNat
    rw [bytesN_length] at this
    exact this

theorem implGetNum (s : ByteArray) (i : Int) (w : World) (hs : s.size ≤ 140737488355328) (hi : i ≤ 9223372036854775807) :
    Calls Try.prog 24 #[.string s, .int .i64 i] w fun e w' => e = .returned (.tuple #[.int .i64 (getNI s i).1, .int .i64 (getNI s i).2]) ∧ w = w' := by
  by_cases h : i < 0
  · rw [show getNI s i = (0, -1) from if_pos h]; exact implGetNum_neg s i w h
  · rw [show getNI s i = Plain.getN (bytesN s) i.toNat from if_neg h]
    obtain ⟨k, rfl⟩ := Int.eq_ofNat_of_zero_le (show 0 ≤ i by omega)
    rw [show ((k : Int)).toNat = k from Int.toNat_natCast k]
    exact implGetNum_any s k w hs hi

theorem specGetNum (s : ByteArray) (i : Int) (w : World) (hs : s.size ≤ 140737488355328) (hi : i ≤ 9223372036854775807) :
    Calls Try.prog 22 #[.string s, .int .i64 i] w fun e w' => e = .returned (.tuple #[.int .i64 (getNI s i).1, .int .i64 (getNI s i).2]) ∧ Below w.heap.size w w' := by
  by_cases h : i < 0
  · rw [show getNI s i = (0, -1) from if_pos h]; exact specGetNum_neg s i w h
  · rw [show getNI s i = Plain.getN (bytesN s) i.toNat from if_neg h]
    obtain ⟨k, rfl⟩ := Int.eq_ofNat_of_zero_le (show 0 ≤ i by omega)
    rw [show ((k : Int)).toNat = k from Int.toNat_natCast k]
    exact specGetNum_any s k w hs hi

/-- GetText's answer at any place -/
def getTI (s : ByteArray) (i : Int) : ByteArray × Int :=
  if (getNI s i).2 < 0 ∨ 10000000 < (getNI s i).1 ∨ (s.size : Int) - (getNI s i).2 < (getNI s i).1 then (⟨#[]⟩, -1)
  else (s.extract (getNI s i).2.toNat ((getNI s i).2 + (getNI s i).1).toNat, (getNI s i).2 + (getNI s i).1)

set_option maxHeartbeats 400000 in
theorem implGetText (s : ByteArray) (i : Int) (w : World) (hs : s.size ≤ 140737488355328) (hi : i ≤ 9223372036854775807) :
    Calls Try.prog 25 #[.string s, .int .i64 i] w fun e w' => e = .returned (.tuple #[.string (getTI s i).1, .int .i64 (getTI s i).2]) ∧ Below w.heap.size w w' := by
  have hr := getNI_range s i
  have HG := implGetNum s i
  unfold getTI
  generalize getNI s i = r at *
  obtain ⟨n, a⟩ := r
  simp only [Prod.mk.injEq] at hr HG ⊢
  by_cases h1 : a < 0
  · rw [if_pos (.inl h1)]
    clear hr
    go_enter Try.func25, Try.ntmps25
    go_wp2_with fail
    refine (HG _ hs hi).mono ?_
    rintro e w1 ⟨rfl, rfl⟩
    go_wp2
    go_ret2
    exact ⟨rfl, Below.refl _ _⟩
  · have hr2 : 0 ≤ n ∧ n ≤ 999999999 ∧ 1 ≤ a ∧ a ≤ (s.size : Int) := by rcases hr with h | h <;> omega
    clear hr
    obtain ⟨hn0, hn1, ha0, ha1⟩ := hr2
    by_cases h2 : 10000000 < n
    · rw [if_pos (.inr (.inl h2))]
      go_enter Try.func25, Try.ntmps25
      go_wp2_with fail
      refine (HG _ hs hi).mono ?_
      rintro e w1 ⟨rfl, rfl⟩
      go_wp2
      go_ret2
      exact ⟨rfl, Below.refl _ _⟩
    · by_cases h3 : (s.size : Int) - a < n
      · rw [if_pos (.inr (.inr h3))]
        go_enter Try.func25, Try.ntmps25
        go_wp2_with fail
        refine (HG _ hs hi).mono ?_
        rintro e w1 ⟨rfl, rfl⟩
        go_wp2
        go_ret2
        exact ⟨rfl, Below.refl _ _⟩
      · rw [if_neg (by omega)]
        obtain ⟨T, hT⟩ : ∃ T : ByteArray, T = s.extract a.toNat (a + n).toNat := ⟨_, rfl⟩
        have hsl : ∀ wx : World, (Instr.slice 9 (.string s) (some (.int .i64 a)) (some (.int .i64 (a + n))) none).run Try.prog wx = .ok (.string T) wx := fun wx => by
          rw [run_slice_string (P := Try.prog) wx 9 s .i64 .i64 a (a + n) Try.underlying9 (by omega) (by omega) (by omega), hT]
        have hTs : T.size ≤ 281474976710656 := by rw [hT]; simp; omega
        rw [← hT]
        clear hT
        go_enter Try.func25, Try.ntmps25
        go_wp2_with fail
        refine (HG _ hs hi).mono ?_
        rintro e w1 ⟨rfl, rfl⟩
        go_wp2_with (go_at_call 30; refine (stringsClone T _ hTs).mono ?_; rintro e w1 ⟨rfl, hb⟩)
        go_ret2
        exact ⟨rfl, hb⟩

set_option maxHeartbeats 400000 in
theorem specGetText (s : ByteArray) (i : Int) (w : World) (hs : s.size ≤ 140737488355328) (hi : i ≤ 9223372036854775807) :
    Calls Try.prog 23 #[.string s, .int .i64 i] w fun e w' => e = .returned (.tuple #[.string (getTI s i).1, .int .i64 (getTI s i).2]) ∧ Below w.heap.size w w' := by
  have hr := getNI_range s i
  have HG := specGetNum s i
  unfold getTI
  generalize getNI s i = r at *
  obtain ⟨n, a⟩ := r
  simp only [Prod.mk.injEq] at hr HG ⊢
  by_cases h1 : a < 0
  · rw [if_pos (.inl h1)]
    clear hr
    go_enter Try.func23, Try.ntmps23
    go_wp2_with fail
    refine (HG _ hs hi).mono ?_
    rintro e w1 ⟨rfl, hb⟩
    go_wp2
    go_ret2
    exact ⟨rfl, hb⟩
  · have hr2 : 0 ≤ n ∧ n ≤ 999999999 ∧ 1 ≤ a ∧ a ≤ (s.size : Int) := by rcases hr with h | h <;> omega
    clear hr
    obtain ⟨hn0, hn1, ha0, ha1⟩ := hr2
    by_cases h2 : 10000000 < n
    · rw [if_pos (.inr (.inl h2))]
      go_enter Try.func23, Try.ntmps23
      go_wp2_with fail
      refine (HG _ hs hi).mono ?_
      rintro e w1 ⟨rfl, hb⟩
      go_wp2
      go_ret2
      exact ⟨rfl, hb⟩
    · by_cases h3 : (s.size : Int) - a < n
      · rw [if_pos (.inr (.inr h3))]
        go_enter Try.func23, Try.ntmps23
        go_wp2_with fail
        refine (HG _ hs hi).mono ?_
        rintro e w1 ⟨rfl, hb⟩
        go_wp2
        go_ret2
        exact ⟨rfl, hb⟩
      · rw [if_neg (by omega)]
        obtain ⟨T, hT⟩ : ∃ T : ByteArray, T = s.extract a.toNat (a + n).toNat := ⟨_, rfl⟩
        have hsl : ∀ wx : World, (Instr.slice 9 (.string s) (some (.int .i64 a)) (some (.int .i64 (a + n))) none).run Try.prog wx = .ok (.string T) wx := fun wx => by
          rw [run_slice_string (P := Try.prog) wx 9 s .i64 .i64 a (a + n) Try.underlying9 (by omega) (by omega) (by omega), hT]
        rw [← hT]
        clear hT
        go_enter Try.func23, Try.ntmps23
        go_wp2_with fail
        refine (HG _ hs hi).mono ?_
        rintro e w1 ⟨rfl, hb⟩
        go_wp2
        go_ret2
        exact ⟨rfl, hb⟩

end Go.Proofs.Yticcdaohpbkjeaa

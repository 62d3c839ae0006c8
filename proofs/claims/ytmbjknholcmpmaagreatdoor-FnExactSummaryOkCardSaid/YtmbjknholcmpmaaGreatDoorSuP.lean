/-
  The walk of spec.SummaryOk.
-/
import Derived.Test.YtmbjknholcmpmaaGreatDoorSuO
import Derived.Test.YtmbjknholcmpmaaGreatDoorSuM
import Derived.Test.YtmbjknholcmpmaaGreatDoorEnvS
import Derived.Test.YtmbjknholcmpmaaGreatDoorIndexLib
namespace Go.Proofs.YtmbjknholcmpmaaGreatDoor
open Go.RowKit
open Go.Sort (grow)

theorem dot_nameS {s : ByteArray} (h : dottedP s = true) : Lx.nameOkP s = true ↔ ∀ j, j < s.size → Lx.byt s j ≠ 46 := by
  constructor
  · intro hn j hj e
    have := (name_bytes hn).2.2 j hj
    rw [e] at this
    exact absurd this (by decide)
  · intro hno
    unfold dottedP at h
    cases hd : dotP s (s.size + 1) 0 with
    | none => rw [hd] at h; exact h
    | some i =>
      obtain ⟨_, h1, h2⟩ := dotP_some hd
      exact absurd h2 (hno i h1)
theorem dot_inS {s : ByteArray} (h : dottedP s = true) : dotIn s = !Lx.nameOkP s := by
  unfold dotIn
  have hge := Lib.indexByte_ge s.data.toList 46
  by_cases c : Lib.indexByte s.data.toList 46 = -1
  · have hd := dot_none c (s.size + 1) 0
    unfold dottedP at h
    rw [hd] at h
    rw [show Lx.nameOkP s = true from h, decide_eq_false (by omega)]
    rfl
  · obtain ⟨o, ho⟩ : ∃ o : Nat, Lib.indexByte s.data.toList 46 = o := ⟨(Lib.indexByte s.data.toList 46).toNat, by omega⟩
    obtain ⟨h1, h2⟩ := dot_some ho
    obtain ⟨_, q1, q2⟩ := dotP_some (h2 0 (s.size + 1) (Nat.zero_le _) (by omega))
    have hn : Lx.nameOkP s = false := by
      cases hh : Lx.nameOkP s with
      | false => rfl
      | true => exact absurd q2 ((dot_nameS h).1 hh o q1)
    rw [hn, decide_eq_true (by omega)]
    rfl

/-- what the specification asks of a summary -/
def SumAsk (n : Nat) (nm : ByteArray) (bad : Bool) (ts xs : List (ByteArray × Ty)) : Prop :=
  Lx.nameOkP nm = true ∧ EnvRight n ts ∧ EnvRight n xs ∧ (bad = true → ts.length + xs.length = 0) ∧ (∀ j (h : j < ts.length), Lx.nameOkP ts[j].1 = false) ∧ (∀ j (h : j < xs.length), Lx.nameOkP xs[j].1 = true) ∧ ReachedAll n ts xs

theorem any_dots {n : Nat} {ts : List (ByteArray × Ty)} (h : EnvRight n ts) (b : Bool) : (ts.any fun x => dotIn x.1 == b) = false ↔ ∀ j (h : j < ts.length), Lx.nameOkP ts[j].1 = b := by
  rw [List.any_eq_false]
  constructor
  · intro k j hj
    have h1 := k ts[j] (List.getElem_mem hj)
    rw [dot_inS (h.1 j hj).1] at h1
    cases hb : Lx.nameOkP ts[j].1 <;> rw [hb] at h1 <;> cases b <;> simp at h1 ⊢
  · intro k x hx
    obtain ⟨j, hj, rfl⟩ := List.getElem_of_mem hx
    rw [dot_inS (h.1 j hj).1, k j hj]
    cases b <;> simp

open Classical in
theorem sum_ask {n : Nat} {nm : ByteArray} {bad : Bool} {ts xs : List (ByteArray × Ty)} : sumRight n nm bad ts xs = true ↔ SumAsk n nm bad ts xs := by
  have e1 : (xs.any fun x => dotIn x.1) = (xs.any fun x => dotIn x.1 == true) := by congr 1; funext x; cases dotIn x.1 <;> rfl
  have e2 : (ts.any fun x => !dotIn x.1) = (ts.any fun x => dotIn x.1 == false) := by congr 1; funext x; cases dotIn x.1 <;> rfl
  unfold sumRight SumAsk
  cases bad with
  | false =>
    simp only [Bool.false_eq_true, if_false, Bool.and_eq_true, decide_eq_true_eq, Bool.not_eq_true', e1, e2]
    constructor
    · rintro ⟨h0, (⟨⟨⟨⟨h1, h2⟩, h3⟩, h4⟩, h5⟩)⟩
      exact ⟨h0, h1, h2, fun h => h.elim, (any_dots h1 false).1 h4, (any_dots h2 true).1 h3, h5⟩
    · rintro ⟨h0, h1, h2, _, h4, h3, h5⟩
      exact ⟨h0, ⟨⟨⟨⟨h1, h2⟩, (any_dots h2 true).2 h3⟩, (any_dots h1 false).2 h4⟩, h5⟩⟩
  | true =>
    simp only [if_true, Bool.and_eq_true, decide_eq_true_eq]
    constructor
    · rintro ⟨h0, h1⟩
      obtain rfl : ts = [] := List.length_eq_zero_iff.1 (by omega)
      obtain rfl : xs = [] := List.length_eq_zero_iff.1 (by omega)
      have hE : EnvRight n [] := ⟨fun j h => absurd h (by simp), by simp⟩
      refine ⟨h0, hE, hE, fun _ => h1, fun j h => absurd h (by simp), fun j h => absurd h (by simp), List.Pairwise.nil, fun x => ?_⟩
      rw [reach_fnOf (fun e he => by simp at he)]
      simp
    · rintro ⟨h0, _, _, h1, _⟩
      exact ⟨h0, h1 trivial⟩

end Go.Proofs.YtmbjknholcmpmaaGreatDoor

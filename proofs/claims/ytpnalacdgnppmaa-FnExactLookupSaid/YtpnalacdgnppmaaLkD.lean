/-
  What a look into a list of names and types answers.
-/
import Derived.Test.YtpnalacdgnppmaaNmD
import Derived.Test.YtpnalacdgnppmaaTypeD
namespace Go.Proofs.Ytpnalacdgnppmaa
open Go.RowKit

/-- the type of the first of that name -/
def LookAns (es : List (ByteArray × Ty)) (nm : ByteArray) (t : Ty) (ok : Bool) : Prop :=
  (ok = true ∧ ∃ j, ∃ h : j < es.length, es[j].1 = nm ∧ (∀ i (hi : i < j), (es[i]'(by omega)).1 ≠ nm) ∧ t = es[j].2) ∨ (ok = false ∧ t = .mk 0 ⟨#[]⟩ [] [] ∧ ∀ j (h : j < es.length), es[j].1 ≠ nm)
theorem LookAns.one {es : List (ByteArray × Ty)} {nm : ByteArray} {t t' : Ty} {ok ok' : Bool} (h : LookAns es nm t ok) (h' : LookAns es nm t' ok') : t = t' ∧ ok = ok' := by
  rcases h with ⟨rfl, j, hj, e1, e2, rfl⟩ | ⟨rfl, rfl, hn⟩
  · rcases h' with ⟨rfl, j', hj', e1', e2', rfl⟩ | ⟨rfl, rfl, hn⟩
    · rcases Nat.lt_trichotomy j j' with c | c | c
      · exact absurd e1 (e2' j c)
      · subst c; exact ⟨rfl, rfl⟩
      · exact absurd e1' (e2 j' c)
    · exact absurd e1 (hn j hj)
  · rcases h' with ⟨rfl, j', hj', e1', e2', rfl⟩ | ⟨rfl, rfl, hn'⟩
    · exact absurd e1' (hn j' hj')
    · exact ⟨rfl, rfl⟩
theorem eq_no {a b : ByteArray} (h : a ≠ b) : (a.toList == b.toList) = false := by
  rw [beq_eq_false_iff_ne, Lib.toList_data, Lib.toList_data]
  intro e
  exact h (by
    cases a
    cases b
    exact congrArg ByteArray.mk (Array.toList_inj.1 e))
theorem zeroLayL {B : Nat} {w : World} {n : Nat} : NewLay B w (n + 1) (.mk (.slice none 0 0) (.slice none 0 0) []) (.mk 0 ⟨#[]⟩ [] []) := by
  refine ⟨⟨.inl ⟨rfl, rfl, _, _, rfl⟩, rfl, .inl ⟨rfl, rfl, _, _, rfl⟩, fun j h => absurd h (by simp)⟩, ?_, fun b hb => ?_⟩
  · show ([] ++ ([] ++ [] : List Nat)).Nodup
    simp
  · have : b ∈ ([] : List Nat) := hb
    simp at this
theorem look_bulk {es : List (ByteArray × Ty)} {nm : ByteArray} {t : Ty} {ok : Bool} {n : Nat} (h : LookAns es nm t ok) (hb : envBulk (n + 1) es ≤ 1048576) : Ty.bulk (n + 1) t ≤ 1048576 := by
  rcases h with ⟨_, j, hj, _, _, rfl⟩ | ⟨_, rfl, _⟩
  · have := env_bulk (n + 1) es j hj; omega
  · show (0 : Nat) + (0 + 0) + (0 + 0) ≤ _; omega
theorem zero_sizedL (n : Nat) : Ty.sized (n + 1) (.mk 0 ⟨#[]⟩ [] []) := ⟨⟨by show (-9223372036854775808 : Int) ≤ 0; omega, by show (0 : Int) ≤ 9223372036854775807; omega⟩, by show (0 : Nat) ≤ _; omega, ⟨by show (0 : Nat) ≤ _; omega, fun x hx => by simp at hx⟩, by show (0 : Nat) ≤ _; omega, fun k hk => by simp at hk⟩
theorem env_sized {w : World} {n : Nat} {v : Value} {es : List (ByteArray × Ty)} (h : EnvAt w n v es) : ∀ j (hj : j < es.length), Ty.sized n es[j].2 := fun j hj => by
  rcases h with ⟨e, _⟩ | ⟨b, off, cap, _, hc⟩
  · subst e; simp at hj
  · obtain ⟨_, ⟨cs, _, _, h1⟩, _⟩ := hc j hj
    exact h1.sized
theorem look_sized {es : List (ByteArray × Ty)} {nm : ByteArray} {t : Ty} {ok : Bool} {n : Nat} (h : LookAns es nm t ok) (hs : ∀ j (hj : j < es.length), Ty.sized (n + 1) es[j].2) : Ty.sized (n + 1) t := by
  rcases h with ⟨_, j, hj, _, _, rfl⟩ | ⟨_, rfl, _⟩
  · exact hs j hj
  · exact zero_sizedL n

end Go.Proofs.Ytpnalacdgnppmaa

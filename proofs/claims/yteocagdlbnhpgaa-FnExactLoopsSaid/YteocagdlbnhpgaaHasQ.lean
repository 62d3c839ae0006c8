/-
  The walk of spec.l02Has: whether a text is one of a list.
-/
import Derived.Test.YteocagdlbnhpgaaTextsD
import Derived.WalkKit
namespace Go.Proofs.Yteocagdlbnhpgaa
open Go.RowKit

def hasQ (ts : List ByteArray) (s : ByteArray) : Bool := ts.any fun x => decide (x.data = s.data)
theorem hasQ_at {ts : List ByteArray} {s : ByteArray} {k : Nat} (h : k < ts.length) (e : ts[k] = s) : hasQ ts s = true := by
  unfold hasQ
  rw [List.any_eq_true]
  exact ⟨ts[k], List.getElem_mem h, by simp [e]⟩
theorem hasQ_none {ts : List ByteArray} {s : ByteArray} (h : ∀ k (hk : k < ts.length), ¬ ts[k] = s) : hasQ ts s = false := by
  unfold hasQ
  rw [List.any_eq_false]
  intro x hx
  obtain ⟨k, hk, rfl⟩ := List.getElem_of_mem hx
  have := h k hk
  intro e
  apply this
  have e2 : ts[k].data = s.data := by simpa using e
  generalize ts[k] = a at *
  cases a; cases s; simp at e2; rw [e2]
theorem list_differQ {a b : ByteArray} (h : ¬ a = b) : (a.toList == b.toList) = false := by
  rw [ByteArray.toList_eq, ByteArray.toList_eq]
  simp only [beq_eq_false_iff_ne, ne_eq]
  intro e
  have h2 : a.data = b.data := Array.toList_inj.1 e
  exact h (by cases a; cases b; simp at h2; rw [h2])

set_option maxHeartbeats 400000 in
theorem specHasQ (v : Value) (ts : List ByteArray) (s : ByteArray) (w : World) (hT : Texts w v ts) (hl : ts.length ≤ 1048576) :
    Calls Try.prog 41 #[v, .string s] w fun e w' => e = .returned (.bool (hasQ ts s)) ∧ w = w' := by
  obtain ⟨a, cap, rfl, hc⟩ : ∃ a cap, v = .slice a ts.length cap ∧ ∀ j (h : j < ts.length), ∃ b off, a = some ⟨b, off, none⟩ ∧ w.cell? ⟨b, off + j, none⟩ = some (.string ts[j]) := by
    rcases hT with ⟨h, a, cap, e⟩ | ⟨b, off, cap, e, hc⟩
    · subst h; exact ⟨a, cap, e, fun j hj => absurd hj (by simp)⟩
    · exact ⟨_, cap, e, fun j hj => ⟨b, off, rfl, hc j hj⟩⟩
  have HC : Hid (∀ j (h : j < ts.length), ∃ b off, a = some ⟨b, off, none⟩ ∧ w.cell? ⟨b, off + j, none⟩ = some (.string ts[j])) := hc
  clear hT hc
  go_enter Try.func41, Try.ntmps41
  go_wp2
  go_loop [5] (fun i => ∃ k : Nat, k ≤ ts.length ∧ i = .int .i64 k ∧ ∀ j (hj : j < ts.length), j < k → ¬ ts[j] = s) (fun i => ts.length - (intOf i).toNat)
  case atStart => exact ⟨0, Nat.zero_le _, rfl, fun j _ h => absurd h (by omega)⟩
  case round =>
    obtain ⟨k, hk, rfl, hno⟩ := hrel
    have HN : Hid (∀ j (hj : j < ts.length), j < k → ¬ ts[j] = s) := hno
    clear hno
    by_cases hlt : k < ts.length
    · obtain ⟨b, off, rfl, hcell⟩ := HC.out k hlt
      by_cases he : ts[k] = s
      · have HY : Hid (hasQ ts s = true) := hasQ_at hlt he
        rw [he] at hcell
        clear he HC
        go_wp2
        go_ret
        exact ⟨by rw [HY.out]; rfl, rfl⟩
      · have hne := list_differQ he
        have HN2 : Hid (∀ j (hj : j < ts.length), j < k + 1 → ¬ ts[j] = s) := fun j hj h => by
          by_cases e : j = k
          · subst e; exact he
          · exact HN.out j hj (by omega)
        clear he
        generalize ts[k] = p at *
        go_wp2
        go_round
        case rel => exact ⟨k + 1, by omega, by go_num, HN2.out⟩
        case measure => simp [intOf]; omega
    · have HY : Hid (hasQ ts s = false) := hasQ_none fun j hj => HN.out j hj (by omega)
      go_wp2
      go_ret
      exact ⟨by rw [HY.out]; rfl, rfl⟩

theorem hasQ_mem {ts : List ByteArray} {s : ByteArray} : hasQ ts s = true ↔ s ∈ ts := by
  unfold hasQ
  rw [List.any_eq_true]
  constructor
  · rintro ⟨x, hx, e⟩
    have e2 : x.data = s.data := by simpa using e
    have : x = s := by cases x; cases s; simp at e2; rw [e2]
    rw [← this]
    exact hx
  · exact fun h => ⟨s, h, by simp⟩

end Go.Proofs.Yteocagdlbnhpgaa

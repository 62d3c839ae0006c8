/-
  Forms by their kinds, and what type assertions on them answer.
-/
import Derived.Test.YthomlchbgcjcfaaGreatDoorTextK
namespace Go.Proofs.YthomlchbgcjcfaaGreatDoor
open Go.RowKit

/-- the interface value of a type of its kind, told by its kind -/
theorem FormAt.cases {w : World} {n : Nat} {v : Value} {t : Ty} (h : FormAt w (n + 1) v t) : ∃ a c an cn, PartsAt w (FormAt w n) (.slice a t.kids.length c) t.kids ∧ Texts w (.slice an t.names.length cn) t.names ∧
    ((t.kind = 0 ∧ v = .iface 69 (.agg #[.slice a t.kids.length c])) ∨ (t.kind = 1 ∧ v = .iface 70 (.agg #[.slice a t.kids.length c])) ∨ (t.kind = 2 ∧ v = .iface 71 (.agg #[.slice a t.kids.length c])) ∨ (t.kind = 3 ∧ v = .iface 58 (.agg #[.slice a t.kids.length c])) ∨
     (t.kind = 4 ∧ v = .iface 73 (.agg #[.slice a t.kids.length c, .string t.name])) ∨ (t.kind = 5 ∧ v = .iface 76 (.agg #[.slice a t.kids.length c, .slice an t.names.length cn])) ∨ (t.kind = 6 ∧ v = .iface 78 (.agg #[.slice a t.kids.length c])) ∨
     ((t.kind ≠ 0 ∧ t.kind ≠ 1 ∧ t.kind ≠ 2 ∧ t.kind ≠ 3 ∧ t.kind ≠ 4 ∧ t.kind ≠ 5 ∧ t.kind ≠ 6) ∧ v = .iface 59 (.agg #[.slice a t.kids.length c]))) := by
  obtain ⟨vp, vn, rfl, hT, hP⟩ := h
  obtain ⟨a, c, rfl, _⟩ := partsOpen hP
  obtain ⟨an, cn, rfl⟩ : ∃ an cn, vn = .slice an t.names.length cn := by
    rcases hT with ⟨h, a, cap, e⟩ | ⟨b, off, cap, e, hc⟩
    · exact ⟨a, cap, by rw [h]; exact e⟩
    · exact ⟨_, cap, e⟩
  refine ⟨a, c, an, cn, hP, hT, ?_⟩
  unfold formV
  by_cases h0 : t.kind = 0
  · exact .inl ⟨h0, by rw [if_pos h0]⟩
  by_cases h1 : t.kind = 1
  · exact .inr (.inl ⟨h1, by rw [if_neg h0, if_pos h1]⟩)
  by_cases h2 : t.kind = 2
  · exact .inr (.inr (.inl ⟨h2, by rw [if_neg h0, if_neg h1, if_pos h2]⟩))
  by_cases h3 : t.kind = 3
  · exact .inr (.inr (.inr (.inl ⟨h3, by rw [if_neg h0, if_neg h1, if_neg h2, if_pos h3]⟩)))
  by_cases h4 : t.kind = 4
  · exact .inr (.inr (.inr (.inr (.inl ⟨h4, by rw [if_neg h0, if_neg h1, if_neg h2, if_neg h3, if_pos h4]⟩))))
  by_cases h5 : t.kind = 5
  · exact .inr (.inr (.inr (.inr (.inr (.inl ⟨h5, by rw [if_neg h0, if_neg h1, if_neg h2, if_neg h3, if_neg h4, if_pos h5]⟩)))))
  by_cases h6 : t.kind = 6
  · exact .inr (.inr (.inr (.inr (.inr (.inr (.inl ⟨h6, by rw [if_neg h0, if_neg h1, if_neg h2, if_neg h3, if_neg h4, if_neg h5, if_pos h6]⟩))))))
  · exact .inr (.inr (.inr (.inr (.inr (.inr (.inr ⟨⟨h0, h1, h2, h3, h4, h5, h6⟩, by rw [if_neg h0, if_neg h1, if_neg h2, if_neg h3, if_neg h4, if_neg h5, if_neg h6]⟩))))))

theorem assertFn {w : World} {n : Nat} {v : Value} {t : Ty} (h : FormAt w n v t) : ∃ a l c, ∀ wx : World, (Instr.typeAssert v 41 78 true).run Tryz.prog wx = .ok (.tuple #[.agg #[.slice a l c], .bool (decide (t.kind = 6))]) wx := by
  cases n with
  | zero => exact h.elim
  | succ n =>
    obtain ⟨a, c, an, cn, _, _, hc⟩ := h.cases
    generalize t.kids.length = l at *
    generalize t.names.length = l' at *
    generalize t.name = nm at *
    rcases hc with ⟨k, rfl⟩ | ⟨k, rfl⟩ | ⟨k, rfl⟩ | ⟨k, rfl⟩ | ⟨k, rfl⟩ | ⟨k, rfl⟩ | ⟨k, rfl⟩ | ⟨k, rfl⟩
    · rw [decide_eq_false (by omega)]; exact ⟨none, 0, 0, fun wx => by kernel_rfl⟩
    · rw [decide_eq_false (by omega)]; exact ⟨none, 0, 0, fun wx => by kernel_rfl⟩
    · rw [decide_eq_false (by omega)]; exact ⟨none, 0, 0, fun wx => by kernel_rfl⟩
    · rw [decide_eq_false (by omega)]; exact ⟨none, 0, 0, fun wx => by kernel_rfl⟩
    · rw [decide_eq_false (by omega)]; exact ⟨none, 0, 0, fun wx => by kernel_rfl⟩
    · rw [decide_eq_false (by omega)]; exact ⟨none, 0, 0, fun wx => by kernel_rfl⟩
    · rw [decide_eq_true k]; exact ⟨a, l, c, fun wx => by kernel_rfl⟩
    · rw [decide_eq_false (by omega)]; exact ⟨none, 0, 0, fun wx => by kernel_rfl⟩

theorem assertAny {w : World} {n : Nat} {v : Value} {t : Ty} (h : FormAt w n v t) : ∃ a l c, ∀ wx : World, (Instr.typeAssert v 41 58 true).run Tryz.prog wx = .ok (.tuple #[.agg #[.slice a l c], .bool (decide (t.kind = 3))]) wx := by
  cases n with
  | zero => exact h.elim
  | succ n =>
    obtain ⟨a, c, an, cn, _, _, hc⟩ := h.cases
    generalize t.kids.length = l at *
    generalize t.names.length = l' at *
    generalize t.name = nm at *
    rcases hc with ⟨k, rfl⟩ | ⟨k, rfl⟩ | ⟨k, rfl⟩ | ⟨k, rfl⟩ | ⟨k, rfl⟩ | ⟨k, rfl⟩ | ⟨k, rfl⟩ | ⟨k, rfl⟩
    · rw [decide_eq_false (by omega)]; exact ⟨none, 0, 0, fun wx => by kernel_rfl⟩
    · rw [decide_eq_false (by omega)]; exact ⟨none, 0, 0, fun wx => by kernel_rfl⟩
    · rw [decide_eq_false (by omega)]; exact ⟨none, 0, 0, fun wx => by kernel_rfl⟩
    · rw [decide_eq_true k]; exact ⟨a, l, c, fun wx => by kernel_rfl⟩
    · rw [decide_eq_false (by omega)]; exact ⟨none, 0, 0, fun wx => by kernel_rfl⟩
    · rw [decide_eq_false (by omega)]; exact ⟨none, 0, 0, fun wx => by kernel_rfl⟩
    · rw [decide_eq_false (by omega)]; exact ⟨none, 0, 0, fun wx => by kernel_rfl⟩
    · rw [decide_eq_false (by omega)]; exact ⟨none, 0, 0, fun wx => by kernel_rfl⟩

theorem right_kind {n : Nat} {t : Ty} {d : Int} (h : Right n t d) : 0 ≤ t.kind ∧ t.kind ≤ 7 := by
  cases n with
  | zero => exact h.elim
  | succ n =>
    obtain ⟨_, _, ho⟩ := h
    rcases ho with ⟨h1, _⟩ | ⟨h1, _⟩ | ⟨h1, _⟩ | ⟨h1, _⟩ | ⟨h1, _⟩ <;> omega

theorem assertUnion {w : World} {n : Nat} {v : Value} {t : Ty} (h : FormAt w n v t) (hk : 0 ≤ t.kind ∧ t.kind ≤ 7) : ∃ a l c, ∀ wx : World, (Instr.typeAssert v 41 59 true).run Tryz.prog wx = .ok (.tuple #[.agg #[.slice a l c], .bool (decide (t.kind = 7))]) wx := by
  cases n with
  | zero => exact h.elim
  | succ n =>
    obtain ⟨a, c, an, cn, _, _, hc⟩ := h.cases
    generalize t.kids.length = l at *
    generalize t.names.length = l' at *
    generalize t.name = nm at *
    rcases hc with ⟨k, rfl⟩ | ⟨k, rfl⟩ | ⟨k, rfl⟩ | ⟨k, rfl⟩ | ⟨k, rfl⟩ | ⟨k, rfl⟩ | ⟨k, rfl⟩ | ⟨k, rfl⟩
    · rw [decide_eq_false (by omega)]; exact ⟨none, 0, 0, fun wx => by kernel_rfl⟩
    · rw [decide_eq_false (by omega)]; exact ⟨none, 0, 0, fun wx => by kernel_rfl⟩
    · rw [decide_eq_false (by omega)]; exact ⟨none, 0, 0, fun wx => by kernel_rfl⟩
    · rw [decide_eq_false (by omega)]; exact ⟨none, 0, 0, fun wx => by kernel_rfl⟩
    · rw [decide_eq_false (by omega)]; exact ⟨none, 0, 0, fun wx => by kernel_rfl⟩
    · rw [decide_eq_false (by omega)]; exact ⟨none, 0, 0, fun wx => by kernel_rfl⟩
    · rw [decide_eq_false (by omega)]; exact ⟨none, 0, 0, fun wx => by kernel_rfl⟩
    · rw [decide_eq_true (by omega)]; exact ⟨a, l, c, fun wx => by kernel_rfl⟩

end Go.Proofs.YthomlchbgcjcfaaGreatDoor

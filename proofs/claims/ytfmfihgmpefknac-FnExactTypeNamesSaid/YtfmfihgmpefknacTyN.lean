/-
  Ascending texts, plainly: such a list is told by what is in it; a text put in; a list sorted, and alike ones once. No program here.
-/
import Derived.Test.YtfmfihgmpefknacPartsP
import Derived.Lib.SlicesCompact
namespace Go.Proofs.Ytfmfihgmpefknac
open Go.RowKit

/-- the one is less than the other -/
def bl (a b : ByteArray) : Prop := a.data.toList < b.data.toList
theorem bl_trans {a b c : ByteArray} (h : bl a b) (k : bl b c) : bl a c := List.lt_trans h k
theorem bl_irrefl (a : ByteArray) : ¬ bl a a := List.lt_irrefl _
theorem ba_inj {a b : ByteArray} (h : a.data.toList = b.data.toList) : a = b := by
  cases a; cases b; congr; exact Array.toList_inj.1 h
theorem bl_tri {a b : ByteArray} (h : ¬ bl a b) (k : ¬ bl b a) : a = b := ba_inj (List.le_antisymm k h)
def Asc (l : List ByteArray) : Prop := l.Pairwise bl

theorem Asc.unique {l r : List ByteArray} (hl : Asc l) (hr : Asc r) (h : ∀ x, x ∈ l ↔ x ∈ r) : l = r := by
  induction l generalizing r with
  | nil =>
    cases r with
    | nil => rfl
    | cons b s => exact absurd ((h b).2 (List.mem_cons_self ..)) (by simp)
  | cons a l ih =>
    cases r with
    | nil => exact absurd ((h a).1 (List.mem_cons_self ..)) (by simp)
    | cons b s =>
      obtain ⟨ha, hl2⟩ := List.pairwise_cons.1 hl
      obtain ⟨hb, hr2⟩ := List.pairwise_cons.1 hr
      have e : a = b := by
        apply Classical.byContradiction
        intro ne
        have h1 : bl b a := by
          rcases List.mem_cons.1 ((h a).1 (List.mem_cons_self ..)) with e | m
          · exact absurd e ne
          · exact hb a m
        have h2 : bl a b := by
          rcases List.mem_cons.1 ((h b).2 (List.mem_cons_self ..)) with e | m
          · exact absurd e.symm ne
          · exact ha b m
        exact bl_irrefl _ (bl_trans h1 h2)
      subst e
      refine congrArg (a :: ·) (ih hl2 hr2 fun x => ?_)
      constructor
      · intro hx
        rcases List.mem_cons.1 ((h x).1 (List.mem_cons_of_mem _ hx)) with e | m
        · subst e; exact absurd (ha _ hx) (bl_irrefl _)
        · exact m
      · intro hx
        rcases List.mem_cons.1 ((h x).2 (List.mem_cons_of_mem _ hx)) with e | m
        · subst e; exact absurd (hb _ hx) (bl_irrefl _)
        · exact m

theorem Asc.put {l : List ByteArray} {s : ByteArray} {k : Nat} (hl : Asc l) (h1 : ∀ j (hj : j < l.length), j < k → bl l[j] s) (h2 : ∀ hj : k < l.length, ¬ bl l[k] s ∧ l[k] ≠ s) : Asc (l.take k ++ ([s] ++ l.drop k)) := by
  have hd := hl
  unfold Asc at hd
  rw [← List.take_append_drop k l, List.pairwise_append] at hd
  obtain ⟨d1, d2, d3⟩ := hd
  have hs : ∀ x ∈ l.drop k, bl s x := by
    cases hc : l.drop k with
    | nil => intro x hx; simp at hx
    | cons y r =>
      have hk : k < l.length := by
        apply Classical.byContradiction
        intro n
        rw [List.drop_of_length_le (by omega)] at hc
        simp at hc
      have hy : y = l[k] := by
        rw [List.drop_eq_getElem_cons hk] at hc
        injection hc with e _
        exact e.symm
      have hsy : bl s y := by
        apply Classical.byContradiction
        intro n
        have := h2 hk
        rw [← hy] at this
        exact this.2 (bl_tri this.1 n)
      rw [hc] at d2
      intro x hx
      rcases List.mem_cons.1 hx with e | m
      · rw [e]; exact hsy
      · exact bl_trans hsy ((List.pairwise_cons.1 d2).1 x m)
  have ht : ∀ x ∈ l.take k, bl x s := fun x hx => by
    obtain ⟨j, hj, rfl⟩ := List.getElem_of_mem hx
    rw [List.getElem_take]
    rw [List.length_take] at hj
    exact h1 j (by omega) (by omega)
  unfold Asc
  rw [List.singleton_append, List.pairwise_append, List.pairwise_cons]
  refine ⟨d1, ⟨hs, d2⟩, fun x hx y hy => ?_⟩
  rcases List.mem_cons.1 hy with e | m
  · rw [e]; exact ht x hx
  · exact d3 x hx y m
theorem mem_put {l : List ByteArray} {s : ByteArray} (k : Nat) (x : ByteArray) : x ∈ l.take k ++ ([s] ++ l.drop k) ↔ x = s ∨ x ∈ l := by
  conv => rhs; rw [← List.take_append_drop k l]
  simp only [List.mem_append, List.mem_singleton]
  constructor
  · rintro (h | h | h)
    · exact .inr (.inl h)
    · exact .inl h
    · exact .inr (.inr h)
  · rintro (h | h | h)
    · exact .inr (.inl h)
    · exact .inl h
    · exact .inr (.inr h)

theorem compactUpTo_sorted (d : Array (List UInt8)) (hs : ∀ i j, i ≤ j → j < d.size → d[i]! ≤ d[j]!) (m : Nat) (hm : m ≤ d.size) : (Lib.compactUpTo d m).Pairwise (· < ·) ∧ ∀ x, x ∈ Lib.compactUpTo d m ↔ ∃ j, j < m ∧ x = d[j]! := by
  induction m with
  | zero => exact ⟨by simp [Lib.compactUpTo], fun x => by simp [Lib.compactUpTo]⟩
  | succ m ih =>
    obtain ⟨ih1, ih2⟩ := ih (by omega)
    rw [Lib.compactUpTo_succ]
    by_cases hk : Lib.keeps d m = true
    · rw [if_pos hk]
      refine ⟨?_, fun x => ?_⟩
      · rw [List.pairwise_append]
        refine ⟨ih1, List.pairwise_singleton _ _, fun x hx y hy => ?_⟩
        obtain ⟨j, hj, rfl⟩ := (ih2 x).1 hx
        obtain rfl := List.mem_singleton.1 hy
        have h1 := hs j (m - 1) (by omega) (by omega)
        have h2 := hs (m - 1) m (by omega) (by omega)
        have h3 : d[m]! ≠ d[m - 1]! := by
          simp only [Lib.keeps] at hk
          intro e
          simp [e] at hk
          omega
        apply Classical.byContradiction
        intro n
        have n : d[m]! ≤ d[j]! := n
        exact h3 (List.le_antisymm (List.le_trans n h1) h2)
      · rw [List.mem_append, List.mem_singleton, ih2 x]
        constructor
        · rintro (⟨j, hj, e⟩ | e)
          · exact ⟨j, by omega, e⟩
          · exact ⟨m, by omega, e⟩
        · rintro ⟨j, hj, e⟩
          by_cases c : j = m
          · subst c; exact .inr e
          · exact .inl ⟨j, by omega, e⟩
    · rw [if_neg hk, List.append_nil]
      refine ⟨ih1, fun x => ?_⟩
      rw [ih2 x]
      have hm0 : 0 < m := by
        rcases Nat.eq_zero_or_pos m with e | e
        · subst e; exact absurd (Lib.keeps_lt_one d 0 (by omega)) hk
        · exact e
      have he : d[m]! = d[m - 1]! := by
        apply Classical.byContradiction
        intro n
        exact hk (Lib.keeps_pos n)
      constructor
      · rintro ⟨j, hj, e⟩; exact ⟨j, by omega, e⟩
      · rintro ⟨j, hj, e⟩
        by_cases c : j = m
        · subst c; exact ⟨j - 1, by omega, e.trans he⟩
        · exact ⟨j, by omega, e⟩

theorem compact_sorted (ss : List (List UInt8)) : (Lib.compact (ss.mergeSort fun x y => decide (x ≤ y))).Pairwise (· < ·) ∧ ∀ x, x ∈ Lib.compact (ss.mergeSort fun x y => decide (x ≤ y)) ↔ x ∈ ss := by
  have hp : (ss.mergeSort fun x y => decide (x ≤ y)).Pairwise (fun a b => decide (a ≤ b) = true) := List.pairwise_mergeSort (fun a b c h k => by
    simp only [decide_eq_true_eq] at h k ⊢
    exact List.le_trans h k) (fun a b => by
    simp only [Bool.or_eq_true, decide_eq_true_eq]
    exact List.le_total a b) ss
  have hm : ∀ x, x ∈ (ss.mergeSort fun x y => decide (x ≤ y)) ↔ x ∈ ss := fun x => (List.mergeSort_perm ss _).mem_iff
  generalize (ss.mergeSort fun x y => decide (x ≤ y)) = q at *
  have hq : ∀ j, j < q.length → q.toArray[j]! = q[j]! := fun j hj => by simp
  have hs : ∀ i j, i ≤ j → j < q.toArray.size → q.toArray[i]! ≤ q.toArray[j]! := fun i j hij hj => by
    have hj' : j < q.length := by simpa using hj
    by_cases c : i = j
    · subst c; exact List.le_refl _
    · have := List.pairwise_iff_getElem.1 hp i j (by omega) hj' (by omega)
      simp only [decide_eq_true_eq] at this
      simpa [hj', show i < q.length by omega] using this
  obtain ⟨h1, h2⟩ := compactUpTo_sorted q.toArray hs q.length (by simp)
  refine ⟨h1, fun x => ?_⟩
  unfold Lib.compact
  rw [h2 x, ← hm x, List.mem_iff_getElem]
  constructor
  · rintro ⟨j, hj, e⟩; exact ⟨j, hj, by rw [e]; simp [hj]⟩
  · rintro ⟨j, hj, e⟩; exact ⟨j, hj, by rw [← e]; simp [hj]⟩

/-- the names in it -/
def namesIn (n : Nat) (t : Ty) (x : ByteArray) : Prop := ∃ u ∈ Ty.nodes n t, u.kind = 4 ∧ u.name = x

end Go.Proofs.Ytfmfihgmpefknac

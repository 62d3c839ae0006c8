/-
  Items brought first, plainly. No program here.
-/
import Derived.Test.YtoebfpdalkpkdaaDoorItS
namespace Go.Proofs.YtoebfpdalkpkdaaDoor

/-- the items behind place i up to place j moved back by one -/
def shiftI (es : List Itm) (i j : Nat) : List Itm := es.mapIdx fun k x => if i < k ∧ k ≤ j then es.getD (k - 1) (⟨#[]⟩, ⟨#[]⟩, ⟨#[]⟩) else x
theorem shiftI_length (es : List Itm) (i j : Nat) : (shiftI es i j).length = es.length := by simp [shiftI]
theorem shiftI_get (es : List Itm) (i j k : Nat) (h : k < es.length) : (shiftI es i j)[k]'(by rw [shiftI_length]; exact h) = if i < k ∧ k ≤ j then es.getD (k - 1) (⟨#[]⟩, ⟨#[]⟩, ⟨#[]⟩) else es[k] := by simp [shiftI]
theorem shiftI_all (es : List Itm) (j : Nat) : shiftI es j j = es := by
  apply List.ext_getElem
  · exact shiftI_length es j j
  · intro k h1 h2
    rw [shiftI_get es j j k h2, if_neg (by omega)]
theorem getD_in (es : List Itm) (k : Nat) (h : k < es.length) : es.getD k (⟨#[]⟩, ⟨#[]⟩, ⟨#[]⟩) = es[k] := by simp [List.getD, h]
theorem shiftI_step (es : List Itm) (i j : Nat) (hij : i + 1 ≤ j) (hj : j < es.length) : (shiftI es (i + 1) j).set (i + 1) es[i] = shiftI es i j := by
  apply List.ext_getElem
  · rw [List.length_set, shiftI_length, shiftI_length]
  · intro k h1 h2
    rw [shiftI_length] at h2
    rw [List.getElem_set, shiftI_get es (i + 1) j k h2, shiftI_get es i j k h2]
    by_cases c : i + 1 = k
    · subst c
      rw [if_pos rfl, if_pos (by omega), show i + 1 - 1 = i from by omega, getD_in es i (by omega)]
    · rw [if_neg c]
      by_cases d : i + 1 < k ∧ k ≤ j
      · rw [if_pos d, if_pos (by omega)]
      · rw [if_neg d, if_neg (by omega)]
theorem shiftI_at (es : List Itm) (i j : Nat) (hj : j < es.length) (hij : i + 1 ≤ j) : (shiftI es (i + 1) j)[i]'(by rw [shiftI_length]; omega) = es[i] := by
  rw [shiftI_get es (i + 1) j i (by omega), if_neg (by omega)]
theorem shiftI_first (es : List Itm) (j : Nat) (hj : j < es.length) : (shiftI es 0 j).set 0 es[j] = es[j] :: es.eraseIdx j := by
  apply List.ext_getElem
  · rw [List.length_set, shiftI_length, List.length_cons, List.length_eraseIdx, if_pos hj]
    omega
  · intro k h1 h2
    rw [List.length_set, shiftI_length] at h1
    rw [List.getElem_set]
    match k with
    | 0 => rfl
    | k + 1 =>
      rw [if_neg (by omega), shiftI_get es 0 j (k + 1) h1, List.getElem_cons_succ, List.getElem_eraseIdx]
      by_cases c : k + 1 ≤ j
      · rw [if_pos (by omega), show k + 1 - 1 = k from by omega, getD_in es k (by omega), dif_pos (by omega)]
      · rw [if_neg (by omega), dif_neg (by omega)]

/-- items without that of an input -/
def withoutI (es : List Itm) (s : ByteArray) : List Itm := es.filter fun e => decide (e.2.1 ≠ s)
theorem withoutI_none (es : List Itm) (s : ByteArray) (h : ∀ j (hj : j < es.length), es[j].2.1 ≠ s) : withoutI es s = es := by
  unfold withoutI
  rw [List.filter_eq_self]
  intro e he
  obtain ⟨j, hj, rfl⟩ := List.getElem_of_mem he
  exact decide_eq_true (h j hj)
theorem withoutI_one (es : List Itm) (s : ByteArray) (j : Nat) (hj : j < es.length) (he : es[j].2.1 = s) (hd : ∀ i k (hk : k < es.length) (hi : i < k), (es[i]'(by omega)).2.1 ≠ es[k].2.1) : withoutI es s = es.eraseIdx j := by
  induction es generalizing j with
  | nil => simp at hj
  | cons x r ih =>
    match j, hj, he with
    | 0, _, he =>
      have he' : x.2.1 = s := he
      show List.filter _ (x :: r) = r
      rw [List.filter_cons_of_neg (by simp [he'])]
      exact withoutI_none r s fun i hi e => by
        have := hd 0 (i + 1) (by simpa using hi) (by omega)
        exact this (he'.trans e.symm)
    | j + 1, hj, he =>
      have hj' : j < r.length := by simpa using hj
      have he' : r[j].2.1 = s := he
      have hx : x.2.1 ≠ s := fun e => hd 0 (j + 1) hj (by omega) (e.trans he'.symm)
      show List.filter _ (x :: r) = x :: r.eraseIdx j
      rw [List.filter_cons_of_pos (by simpa using hx)]
      congr 1
      exact ih j hj' he' fun i k hk hi => by
        have := hd (i + 1) (k + 1) (by simpa using hk) (by omega)
        exact this
theorem withoutI_more (es : List Itm) (s : ByteArray) (k : Nat) (h : k < es.length) : withoutI (es.take (k + 1)) s = withoutI (es.take k) s ++ if es[k].2.1 = s then [] else [es[k]] := by
  unfold withoutI
  rw [List.take_succ_eq_append_getElem h, List.filter_append]
  congr 1
  by_cases c : es[k].2.1 = s
  · rw [if_pos c, List.filter_cons_of_neg (by simp [c])]; rfl
  · rw [if_neg c, List.filter_cons_of_pos (by simpa using c)]; rfl
theorem withoutI_length (es : List Itm) (s : ByteArray) : (withoutI es s).length ≤ es.length := List.length_filter_le _ _
theorem withoutI_bulk (es : List Itm) (s : ByteArray) : itsBulk (withoutI es s) ≤ itsBulk es := by
  have h1 := withoutI_length es s
  have h2 : ((withoutI es s).map itBulk).sum ≤ (es.map itBulk).sum := by
    clear h1
    unfold withoutI
    induction es with
    | nil => exact Nat.le_refl _
    | cons x r ih =>
      by_cases c : x.2.1 = s
      · rw [List.filter_cons_of_neg (by simp [c]), List.map_cons, List.sum_cons]
        omega
      · rw [List.filter_cons_of_pos (by simpa using c), List.map_cons, List.map_cons, List.sum_cons, List.sum_cons]
        omega
  unfold itsBulk
  omega
/-- where an input stands among items no two of which have one: there, and nowhere else -/
theorem place_cases (es : List Itm) (s : ByteArray) : (∀ j (hj : j < es.length), es[j].2.1 ≠ s) ∨ ∃ j, ∃ hj : j < es.length, es[j].2.1 = s ∧ ∀ i (hi : i < j), (es[i]'(by omega)).2.1 ≠ s := by
  induction es with
  | nil => exact .inl fun j hj => by simp at hj
  | cons x r ih =>
    by_cases c : x.2.1 = s
    · exact .inr ⟨0, by simp, c, fun i hi => by omega⟩
    · rcases ih with h | ⟨j, hj, he, hf⟩
      · refine .inl fun j hj => ?_
        match j, hj with
        | 0, _ => exact c
        | j + 1, hj => exact h j (by simpa using hj)
      · refine .inr ⟨j + 1, by simpa using hj, he, fun i hi => ?_⟩
        match i, hi with
        | 0, _ => exact c
        | i + 1, hi => exact hf i (by omega)

end Go.Proofs.YtoebfpdalkpkdaaDoor

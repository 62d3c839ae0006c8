/-
  What a type is behind all names and unions. No program here.
-/
import Derived.Test.YteocagdlbnhpgaaRcP
namespace Go.Proofs.Yteocagdlbnhpgaa

/-- the leaves of types, one behind the other -/
def leavesAll (f : Ty → Option (List Ty)) : List Ty → Option (List Ty)
  | [] => some []
  | t :: r => match f t, leavesAll f r with
    | some a, some b => some (a ++ b)
    | _, _ => none
/-- the type of the first of that name -/
def firstTy : List (ByteArray × Ty) → ByteArray → Option Ty
  | [], _ => none
  | e :: r, s => if e.1 = s then some e.2 else firstTy r s
/-- what it is behind all names and unions, by so many steps at most -/
def lvN (es : List (ByteArray × Ty)) : Nat → Ty → Option (List Ty)
  | 0, _ => none
  | k + 1, t => if t.kind = 4 then (match firstTy es t.name with | none => none | some u => lvN es k u) else if t.kind = 7 ∧ t.kids.isEmpty = false then leavesAll (lvN es k) t.kids else some [t]
def Leafy (t : Ty) : Prop := t.kind ≠ 4 ∧ (t.kind ≠ 7 ∨ t.kids = [])
/-- one step from a type -/
def Kid (es : List (ByteArray × Ty)) (t u : Ty) : Prop := (t.kind = 4 ∧ firstTy es t.name = some u) ∨ (t.kind = 7 ∧ u ∈ t.kids)
/-- it is told what it is, and that is among these -/
def Done (es : List (ByteArray × Ty)) (S : Ty → Prop) (t : Ty) : Prop := ∃ k L, lvN es k t = some L ∧ ∀ x ∈ L, S x
def Good (es : List (ByteArray × Ty)) (t : Ty) : Prop := ∃ k, lvN es k t ≠ none
/-- it is told by fewer steps -/
def Sub (es : List (ByteArray × Ty)) (p v : Ty) : Prop := ∀ k, lvN es k p ≠ none → ∃ k', k' < k ∧ lvN es k' v ≠ none

theorem firstTy_at {es : List (ByteArray × Ty)} {s : ByteArray} {j : Nat} (h : First es s j) : firstTy es s = some (es[j]'h.1).2 := by
  induction es generalizing j with
  | nil => exact absurd h.1 (by simp)
  | cons e r ih =>
    obtain ⟨h1, h2, h3⟩ := h
    cases j with
    | zero =>
      simp only [List.getElem_cons_zero] at h2 ⊢
      rw [firstTy, if_pos h2]
    | succ j =>
      have hne : ¬ e.1 = s := h3 0 (by omega)
      rw [firstTy, if_neg hne]
      simp only [List.getElem_cons_succ]
      exact ih ⟨by simpa using h1, by simpa using h2, fun i hi => by simpa using h3 (i + 1) (by omega)⟩
theorem firstTy_none {es : List (ByteArray × Ty)} {s : ByteArray} (h : ∀ j (h : j < es.length), es[j].1 ≠ s) : firstTy es s = none := by
  induction es with
  | nil => rfl
  | cons e r ih =>
    have h0 : ¬ e.1 = s := h 0 (by simp)
    rw [firstTy, if_neg h0]
    exact ih fun j hj => h (j + 1) (by simpa using hj)
theorem firstTy_mem {es : List (ByteArray × Ty)} {s : ByteArray} {u : Ty} (h : firstTy es s = some u) : (s, u) ∈ es := by
  induction es with
  | nil => cases h
  | cons e r ih =>
    rw [firstTy] at h
    by_cases c : e.1 = s
    · rw [if_pos c] at h
      cases h
      subst c
      simp
    · rw [if_neg c] at h
      exact List.mem_cons_of_mem _ (ih h)

theorem all_some {f : Ty → Option (List Ty)} {l : List Ty} {L : List Ty} (h : leavesAll f l = some L) : ∀ u ∈ l, ∃ L', f u = some L' ∧ ∀ x ∈ L', x ∈ L := by
  induction l generalizing L with
  | nil => exact fun u hu => absurd hu (by simp)
  | cons t r ih =>
    rw [leavesAll] at h
    cases h1 : f t with
    | none => rw [h1] at h; cases h
    | some a =>
      cases h2 : leavesAll f r with
      | none => rw [h1, h2] at h; cases h
      | some b =>
        rw [h1, h2] at h
        cases h
        intro u hu
        rcases List.mem_cons.1 hu with rfl | hu
        · exact ⟨a, h1, fun x hx => List.mem_append_left _ hx⟩
        · obtain ⟨L', q1, q2⟩ := ih h2 u hu
          exact ⟨L', q1, fun x hx => List.mem_append_right _ (q2 x hx)⟩
theorem all_of {f : Ty → Option (List Ty)} {S : Ty → Prop} {l : List Ty} (h : ∀ u ∈ l, ∃ L', f u = some L' ∧ ∀ x ∈ L', S x) : ∃ L, leavesAll f l = some L ∧ ∀ x ∈ L, S x := by
  induction l with
  | nil => exact ⟨[], rfl, fun x hx => absurd hx (by simp)⟩
  | cons t r ih =>
    obtain ⟨a, h1, h2⟩ := h t (by simp)
    obtain ⟨b, h3, h4⟩ := ih fun u hu => h u (List.mem_cons_of_mem _ hu)
    refine ⟨a ++ b, by rw [leavesAll, h1, h3], fun x hx => ?_⟩
    rcases List.mem_append.1 hx with hx | hx
    · exact h2 x hx
    · exact h4 x hx
theorem all_eq {f g : Ty → Option (List Ty)} {l L : List Ty} (h : leavesAll f l = some L) (hfg : ∀ u L', f u = some L' → g u = some L') : leavesAll g l = some L := by
  induction l generalizing L with
  | nil => exact h
  | cons t r ih =>
    rw [leavesAll] at h ⊢
    cases h1 : f t with
    | none => rw [h1] at h; cases h
    | some a =>
      cases h2 : leavesAll f r with
      | none => rw [h1, h2] at h; cases h
      | some b =>
        rw [h1, h2] at h
        rw [hfg t a h1, ih h2]
        exact h

theorem lv_up {es : List (ByteArray × Ty)} {k : Nat} {t : Ty} {L : List Ty} (h : lvN es k t = some L) : lvN es (k + 1) t = some L := by
  induction k generalizing t L with
  | zero => cases h
  | succ k ih =>
    rw [lvN] at h ⊢
    by_cases c : t.kind = 4
    · rw [if_pos c] at h ⊢
      cases h1 : firstTy es t.name with
      | none => rw [h1] at h; cases h
      | some u =>
        rw [h1] at h
        exact ih h
    · rw [if_neg c] at h ⊢
      by_cases c2 : t.kind = 7 ∧ t.kids.isEmpty = false
      · rw [if_pos c2] at h ⊢
        exact all_eq h fun u L' hu => ih hu
      · rw [if_neg c2] at h ⊢
        exact h
theorem lv_mono {es : List (ByteArray × Ty)} {k m : Nat} {t : Ty} {L : List Ty} (h : lvN es k t = some L) (hm : k ≤ m) : lvN es m t = some L := by
  induction m with
  | zero =>
    obtain rfl : k = 0 := by omega
    exact h
  | succ m ih =>
    by_cases c : k = m + 1
    · subst c; exact h
    · exact lv_up (ih (by omega))
theorem lv_one {es : List (ByteArray × Ty)} {k m : Nat} {t : Ty} {L L' : List Ty} (h : lvN es k t = some L) (h' : lvN es m t = some L') : L = L' := by
  have h1 := lv_mono h (Nat.le_max_left k m)
  have h2 := lv_mono h' (Nat.le_max_right k m)
  rw [h1] at h2
  exact Option.some.inj h2
theorem empty_iff (l : List Ty) : l.isEmpty = false ↔ l ≠ [] := by cases l <;> simp
theorem lv_leaf {es : List (ByteArray × Ty)} {t : Ty} (h : Leafy t) (k : Nat) : lvN es (k + 1) t = some [t] := by
  rw [lvN, if_neg h.1, if_neg]
  rintro ⟨h1, h2⟩
  rcases h.2 with h3 | h3
  · exact h3 h1
  · exact (empty_iff _).1 h2 h3
theorem lv_kid {es : List (ByteArray × Ty)} {t u : Ty} {k : Nat} {L : List Ty} (hk : Kid es t u) (h : lvN es (k + 1) t = some L) : ∃ L', lvN es k u = some L' ∧ ∀ x ∈ L', x ∈ L := by
  rw [lvN] at h
  rcases hk with ⟨h4, h1⟩ | ⟨h7, hu⟩
  · rw [if_pos h4, h1] at h
    exact ⟨L, h, fun x hx => hx⟩
  · rw [if_neg (by rw [h7]; decide), if_pos ⟨h7, (empty_iff _).2 (List.ne_nil_of_mem hu)⟩] at h
    exact all_some h u hu
theorem sub_kid {es : List (ByteArray × Ty)} {t u : Ty} (hk : Kid es t u) : Sub es t u := fun k h => by
  cases k with
  | zero => exact absurd rfl h
  | succ k =>
    obtain ⟨L, hL⟩ := Option.ne_none_iff_exists'.1 h
    obtain ⟨L', h1, _⟩ := lv_kid hk hL
    exact ⟨k, by omega, by rw [h1]; simp⟩
theorem Sub.trans {es : List (ByteArray × Ty)} {a b c : Ty} (h : Sub es a b) (h' : Sub es b c) : Sub es a c := fun k hk => by
  obtain ⟨k', h1, h2⟩ := h k hk
  obtain ⟨k'', h3, h4⟩ := h' k' h2
  exact ⟨k'', by omega, h4⟩
theorem kids_bound {P : Ty → Nat → Prop} (hP : ∀ u k m, P u k → k ≤ m → P u m) (l : List Ty) (h : ∀ u ∈ l, ∃ k, P u k) : ∃ K, ∀ u ∈ l, P u K := by
  induction l with
  | nil => exact ⟨0, fun u hu => absurd hu (by simp)⟩
  | cons t r ih =>
    obtain ⟨k, hk⟩ := h t (by simp)
    obtain ⟨K, hK⟩ := ih fun u hu => h u (List.mem_cons_of_mem _ hu)
    refine ⟨max k K, fun u hu => ?_⟩
    rcases List.mem_cons.1 hu with rfl | hu
    · exact hP _ _ _ hk (Nat.le_max_left ..)
    · exact hP _ _ _ (hK u hu) (Nat.le_max_right ..)
/-- it is told what it is where that is told of all that it leads to -/
theorem done_kids {es : List (ByteArray × Ty)} {S : Ty → Prop} {t : Ty} (hl : ¬ Leafy t) (h4 : t.kind = 4 → firstTy es t.name ≠ none) (h : ∀ u, Kid es t u → Done es S u) : Done es S t := by
  by_cases c : t.kind = 4
  · obtain ⟨u, hu⟩ := Option.ne_none_iff_exists'.1 (h4 c)
    obtain ⟨k, L, h1, h2⟩ := h u (.inl ⟨c, hu⟩)
    exact ⟨k + 1, L, by rw [lvN, if_pos c, hu]; exact h1, h2⟩
  · have c7 : t.kind = 7 := Classical.byContradiction fun e => hl ⟨c, .inl e⟩
    have ck : t.kids ≠ [] := fun e => hl ⟨c, .inr e⟩
    obtain ⟨K, hK⟩ := kids_bound (P := fun u k => ∃ L, lvN es k u = some L ∧ ∀ x ∈ L, S x) (fun u k m ⟨L, h1, h2⟩ hm => ⟨L, lv_mono h1 hm, h2⟩) t.kids fun u hu => h u (.inr ⟨c7, hu⟩)
    obtain ⟨L, h1, h2⟩ := all_of hK
    exact ⟨K + 1, L, by rw [lvN, if_neg c, if_pos ⟨c7, (empty_iff _).2 ck⟩]; exact h1, h2⟩
theorem Done.mono {es : List (ByteArray × Ty)} {S S' : Ty → Prop} {t : Ty} (h : Done es S t) (hS : ∀ x, S x → S' x) : Done es S' t := by
  obtain ⟨k, L, h1, h2⟩ := h
  exact ⟨k, L, h1, fun x hx => hS x (h2 x hx)⟩
theorem Done.good {es : List (ByteArray × Ty)} {S : Ty → Prop} {t : Ty} (h : Done es S t) : Good es t := by
  obtain ⟨k, L, h1, _⟩ := h
  exact ⟨k, by rw [h1]; simp⟩
theorem not_self {es : List (ByteArray × Ty)} {p v : Ty} (hs : Sub es p v) (he : ∀ k, lvN es k p = lvN es k v) : ¬ Good es p := by
  rintro ⟨k, hk⟩
  have : ∀ n k, k ≤ n → lvN es k p = none := fun n => by
    induction n with
    | zero =>
      intro k hk
      obtain rfl : k = 0 := by omega
      rfl
    | succ n ih =>
      intro k hk
      apply Classical.byContradiction
      intro hne
      obtain ⟨k', h1, h2⟩ := hs k hne
      rw [← he] at h2
      exact h2 (ih k' (by omega))
  exact hk (this k k (Nat.le_refl _))
theorem not_missing {es : List (ByteArray × Ty)} {p : Ty} (h4 : p.kind = 4) (h : firstTy es p.name = none) : ¬ Good es p := by
  rintro ⟨k, hk⟩
  cases k with
  | zero => exact hk rfl
  | succ k =>
    rw [lvN, if_pos h4, h] at hk
    exact hk rfl
/-- the same stop -/
def SameStop (t u : Ty) : Prop := (t.kind = 4 ∧ u.kind = 4 ∧ t.name = u.name) ∨ (t.kind = 7 ∧ u.kind = 7 ∧ t.kids = u.kids ∧ t.kids ≠ [])
theorem same_lv {es : List (ByteArray × Ty)} {t u : Ty} (h : SameStop t u) (k : Nat) : lvN es k t = lvN es k u := by
  cases k with
  | zero => rfl
  | succ k =>
    rcases h with ⟨h1, h2, h3⟩ | ⟨h1, h2, h3, h4⟩
    · rw [lvN, lvN, if_pos h1, if_pos h2, h3]
    · have e : ∀ z : Ty, z.kind = 7 → z.kids ≠ [] → lvN es (k + 1) z = leavesAll (lvN es k) z.kids := fun z q1 q2 => by rw [lvN, if_neg (by rw [q1]; decide), if_pos ⟨q1, (empty_iff _).2 q2⟩]
      rw [e t h1 h4, e u h2 (h3 ▸ h4), h3]
theorem same_done {es : List (ByteArray × Ty)} {S : Ty → Prop} {t u : Ty} (h : SameStop t u) (hd : Done es S t) : Done es S u := by
  obtain ⟨k, L, h1, h2⟩ := hd
  exact ⟨k, L, by rw [← same_lv h]; exact h1, h2⟩

/-- how many steps a type takes at most, names not followed -/
def Ty.cost : Nat → Ty → Nat
  | 0, _ => 2
  | n + 1, t => 2 + (if t.kind = 7 then (t.kids.map (Ty.cost n)).sum else 0)
theorem cost_two (n : Nat) (t : Ty) : 2 ≤ Ty.cost n t := by
  cases n with
  | zero => exact Nat.le_refl _
  | succ n => rw [Ty.cost]; omega
theorem cost_bulk (n : Nat) (t : Ty) : Ty.cost n t ≤ 2 + 2 * Ty.bulk n t := by
  induction n generalizing t with
  | zero => rw [Ty.cost]; omega
  | succ n ih =>
    rw [Ty.cost, Ty.bulk]
    have : ∀ l : List Ty, (l.map (Ty.cost n)).sum ≤ 2 * (l.length + (l.map (Ty.bulk n)).sum) := fun l => by
      induction l with
      | nil => simp
      | cons a r ihr =>
        have := ih a
        simp only [List.map_cons, List.sum_cons, List.length_cons]
        omega
    have := this t.kids
    split <;> omega

end Go.Proofs.Yteocagdlbnhpgaa

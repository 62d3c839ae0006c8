/-
  Which names are reached from a type through a list of names and types. No program here.
-/
import Derived.Test.YteocagdlbnhpgaaNmD
import Derived.Test.YteocagdlbnhpgaaTyN
namespace Go.Proofs.Yteocagdlbnhpgaa

/-- the first of that name stands there -/
def First (es : List (ByteArray × Ty)) (x : ByteArray) (j : Nat) : Prop := ∃ h : j < es.length, es[j].1 = x ∧ ∀ i (hi : i < j), (es[i]'(by omega)).1 ≠ x
theorem First.one {es : List (ByteArray × Ty)} {x : ByteArray} {i j : Nat} (h : First es x i) (k : First es x j) : i = j := by
  obtain ⟨h1, h2, h3⟩ := h
  obtain ⟨k1, k2, k3⟩ := k
  rcases Nat.lt_trichotomy i j with c | c | c
  · exact absurd h2 (k3 i c)
  · exact c
  · exact absurd k2 (h3 j c)
/-- a name that stands in the type of that name -/
def Nx (n : Nat) (es : List (ByteArray × Ty)) (x y : ByteArray) : Prop := ∃ j, ∃ h : First es x j, namesIn n (es[j]'h.1).2 y
/-- those that are reached by so many steps -/
def Lv (n : Nat) (es : List (ByteArray × Ty)) (t : Ty) : Nat → ByteArray → Prop
  | 0, x => namesIn n t x
  | i + 1, x => Lv n es t i x ∨ ∃ y, Lv n es t i y ∧ Nx n es y x
/-- the names that are reached -/
def Rch (n : Nat) (es : List (ByteArray × Ty)) (t : Ty) (x : ByteArray) : Prop := ∃ i, Lv n es t i x
theorem Rch.base {n : Nat} {es : List (ByteArray × Ty)} {t : Ty} {x : ByteArray} (h : namesIn n t x) : Rch n es t x := ⟨0, h⟩
theorem Rch.step {n : Nat} {es : List (ByteArray × Ty)} {t : Ty} {x y : ByteArray} (h : Rch n es t x) (k : Nx n es x y) : Rch n es t y := by
  obtain ⟨i, hi⟩ := h
  exact ⟨i + 1, .inr ⟨x, hi, k⟩⟩

theorem Lv.mono {n : Nat} {es : List (ByteArray × Ty)} {t : Ty} {i j : Nat} {x : ByteArray} (h : Lv n es t i x) (hij : i ≤ j) : Lv n es t j x := by
  induction j with
  | zero =>
    obtain rfl : i = 0 := by omega
    exact h
  | succ j ih =>
    by_cases c : i = j + 1
    · subst c; exact h
    · exact .inl (ih (by omega))
theorem Lv.rch {n : Nat} {es : List (ByteArray × Ty)} {t : Ty} {i : Nat} {x : ByteArray} (h : Lv n es t i x) : Rch n es t x := ⟨i, h⟩
theorem countP_all {α : Type} (p q : α → Bool) (l : List α) (h : ∀ x ∈ l, p x = true → q x = true) : l.countP p ≤ l.countP q ∧ (l.countP p = l.countP q → ∀ x ∈ l, q x = true → p x = true) := by
  induction l with
  | nil => exact ⟨Nat.le_refl _, fun _ x hx => absurd hx (by simp)⟩
  | cons a r ih =>
    obtain ⟨h1, h2⟩ := ih fun x hx => h x (List.mem_cons_of_mem _ hx)
    have ha := h a (by simp)
    rw [List.countP_cons, List.countP_cons]
    cases hp : p a <;> cases hq : q a
    · refine ⟨by simpa using h1, fun e x hx hqx => ?_⟩
      rcases List.mem_cons.1 hx with rfl | hx
      · rw [hq] at hqx; cases hqx
      · exact h2 (by simpa using e) x hx hqx
    · refine ⟨by simp; omega, fun e => ?_⟩
      simp at e
      omega
    · rw [hq] at ha; exact absurd (ha hp) (by simp)
    · refine ⟨by simp; omega, fun e x hx hqx => ?_⟩
      rcases List.mem_cons.1 hx with rfl | hx
      · exact hp
      · exact h2 (by simpa using e) x hx hqx

open Classical in
/-- by as many steps as there are in the list all are reached -/
theorem rch_lv {n : Nat} {es : List (ByteArray × Ty)} {t : Ty} {x : ByteArray} (h : Rch n es t x) : Lv n es t (es.length + 1) x := by
  -- how many of the list are reached by so many steps
  let c : Nat → Nat := fun i => (List.range es.length).countP fun j => decide (∃ h : j < es.length, Lv n es t i es[j].1)
  have hle : ∀ i, c i ≤ es.length := fun i => by
    have := List.countP_le_length (p := fun j => decide (∃ h : j < es.length, Lv n es t i es[j].1)) (l := List.range es.length)
    rwa [List.length_range] at this
  have hup : ∀ i, c i ≤ c (i + 1) ∧ (c i = c (i + 1) → ∀ j (hj : j < es.length), Lv n es t (i + 1) es[j].1 → Lv n es t i es[j].1) := fun i => by
    obtain ⟨h1, h2⟩ := countP_all (fun j => decide (∃ h : j < es.length, Lv n es t i es[j].1)) (fun j => decide (∃ h : j < es.length, Lv n es t (i + 1) es[j].1)) (List.range es.length) fun j hj hp => by
      obtain ⟨hj', hl⟩ := of_decide_eq_true hp
      exact decide_eq_true ⟨hj', .inl hl⟩
    refine ⟨h1, fun e j hj hl => ?_⟩
    have := h2 e j (List.mem_range.2 hj) (decide_eq_true ⟨hj, hl⟩)
    exact (of_decide_eq_true this).2
  -- somewhere nothing is added
  have hst : ∃ i, i ≤ es.length ∧ c i = c (i + 1) := by
    apply Classical.byContradiction
    intro hn
    have hgt : ∀ i, i ≤ es.length + 1 → i ≤ c i := fun i => by
      induction i with
      | zero => intro _; exact Nat.zero_le _
      | succ i ih =>
        intro hi
        have h1 := ih (by omega)
        have h2 := (hup i).1
        have h3 : c i ≠ c (i + 1) := fun e => hn ⟨i, by omega, e⟩
        omega
    have := hgt (es.length + 1) (Nat.le_refl _)
    have := hle (es.length + 1)
    omega
  obtain ⟨i, hi, e⟩ := hst
  have hback := (hup i).2 e
  have hclose : ∀ k z, Lv n es t (i + 1 + k) z → Lv n es t (i + 1) z := fun k => by
    induction k with
    | zero => exact fun z h => h
    | succ k ih =>
      intro z hz
      rcases hz with hz | ⟨y, h1, j, hf, h2⟩
      · exact ih z hz
      · have hy := ih y h1
        obtain ⟨hj, he, hm⟩ := hf
        have : Lv n es t i es[j].1 := hback j hj (by rw [he]; exact hy)
        rw [he] at this
        exact .inr ⟨y, this, j, ⟨hj, he, hm⟩, h2⟩
  obtain ⟨k, hk⟩ := h
  have := hclose k x (hk.mono (by omega))
  exact this.mono (by omega)

/-- no more different texts than there are in a list that has them all -/
theorem nodup_len {l m : List ByteArray} (h : l.Nodup) (hs : ∀ x ∈ l, x ∈ m) : l.length ≤ m.length := by
  induction l generalizing m with
  | nil => exact Nat.zero_le _
  | cons a r ih =>
    rw [List.nodup_cons] at h
    have ha := hs a (by simp)
    obtain ⟨u, v, rfl⟩ := List.append_of_mem ha
    have h1 := ih (m := u ++ v) h.2 fun x hx => by
      have hne : x ≠ a := fun e => h.1 (e ▸ hx)
      have := hs x (List.mem_cons_of_mem _ hx)
      simp only [List.mem_append, List.mem_cons] at this ⊢
      rcases this with h | h | h
      · exact .inl h
      · exact absurd h hne
      · exact .inr h
    simp only [List.length_append, List.length_cons] at h1 ⊢
    omega
theorem asc_nodup {l : List ByteArray} (h : Asc l) : l.Nodup := by
  unfold Asc at h
  exact List.Pairwise.imp (fun {a b} (hab : bl a b) (e : a = b) => bl_irrefl b (by rw [e] at hab; exact hab)) h

/-- all names that there are -/
def allNames (n : Nat) (es : List (ByteArray × Ty)) (t : Ty) : List ByteArray := ((Ty.nodes n t).map (·.name)) ++ es.flatMap fun e => (Ty.nodes n e.2).map (·.name)
theorem rch_all {n : Nat} {es : List (ByteArray × Ty)} {t : Ty} {x : ByteArray} (h : Rch n es t x) : x ∈ allNames n es t := by
  obtain ⟨i, h⟩ := h
  induction i with
  | zero =>
    obtain ⟨u, hu, _, e⟩ := h
    exact List.mem_append_left _ (List.mem_map.2 ⟨u, hu, e⟩)
  | succ i ih =>
    rcases h with h | ⟨_, _, j, hf, u, hu, _, e⟩
    · exact ih h
    · exact List.mem_append_right _ (List.mem_flatMap.2 ⟨_, List.getElem_mem hf.1, List.mem_map.2 ⟨u, hu, e⟩⟩)

end Go.Proofs.Yteocagdlbnhpgaa

/-
  How the names that are reached are found one by one: what holds of them at each step. No program here.
-/
import Derived.Test.YteocagdlbnhpgaaRcP
import Derived.Test.YteocagdlbnhpgaaNamesU
namespace Go.Proofs.Yteocagdlbnhpgaa
open Go.RowKit Go.Sort Go.Shelf

/-- the type that was asked for, or the type of a name among these -/
def Has (es : List (ByteArray × Ty)) (t : Ty) (zs : List ByteArray) (T : Ty) : Prop := T = t ∨ ∃ x, x ∈ zs ∧ ∃ j, ∃ h : First es x j, T = (es[j]'h.1).2
theorem Has.more {es : List (ByteArray × Ty)} {t T : Ty} {zs : List ByteArray} (h : Has es t zs T) (y : ByteArray) : Has es t (zs ++ [y]) T := by
  rcases h with h | ⟨x, hx, h⟩
  · exact .inl h
  · exact .inr ⟨x, List.mem_append_left _ hx, h⟩

structure RP (n : Nat) (es : List (ByteArray × Ty)) (t : Ty) (zs : List ByteArray) (Ws : List Ty) (cur : Option Ty) : Prop where
  nd : zs.Nodup
  rc : ∀ x, x ∈ zs → Rch n es t x
  ws : ∀ T, T ∈ Ws → Has es t zs T
  cu : ∀ T, cur = some T → Has es t zs T
  cl : ∀ T, Has es t zs T → T ∈ Ws ∨ cur = some T ∨ ∀ y, namesIn n T y → y ∈ zs

theorem RP.start (n : Nat) (es : List (ByteArray × Ty)) (t : Ty) : RP n es t [] [t] none where
  nd := List.nodup_nil
  rc := fun x h => absurd h (by simp)
  ws := fun T h => .inl (by simpa using h)
  cu := fun T h => by cases h
  cl := fun T h => by
    rcases h with h | ⟨x, hx, _⟩
    · exact .inl (by simp [h])
    · exact absurd hx (by simp)
theorem RP.pop {n : Nat} {es : List (ByteArray × Ty)} {t T : Ty} {zs : List ByteArray} {Ws : List Ty} (h : RP n es t zs (Ws ++ [T]) none) : RP n es t zs Ws (some T) where
  nd := h.nd
  rc := h.rc
  ws := fun U hU => h.ws U (List.mem_append_left _ hU)
  cu := fun U hU => by cases hU; exact h.ws _ (by simp)
  cl := fun U hU => by
    rcases h.cl U hU with q | q | q
    · rcases List.mem_append.1 q with q | q
      · exact .inl q
      · exact .inr (.inl (by simp at q; rw [q]))
    · cases q
    · exact .inr (.inr q)
theorem RP.done {n : Nat} {es : List (ByteArray × Ty)} {t T : Ty} {zs : List ByteArray} {Ws : List Ty} (h : RP n es t zs Ws (some T)) (hT : ∀ y, namesIn n T y → y ∈ zs) : RP n es t zs Ws none where
  nd := h.nd
  rc := h.rc
  ws := h.ws
  cu := fun U hU => by cases hU
  cl := fun U hU => by
    rcases h.cl U hU with q | q | q
    · exact .inl q
    · cases q; exact .inr (.inr hT)
    · exact .inr (.inr q)
theorem RP.reach {n : Nat} {es : List (ByteArray × Ty)} {t T : Ty} {zs : List ByteArray} {Ws : List Ty} (h : RP n es t zs Ws (some T)) {x : ByteArray} (hx : namesIn n T x) : Rch n es t x := by
  rcases h.cu T rfl with rfl | ⟨y, hy, j, hj, rfl⟩
  · exact .base hx
  · exact .step (h.rc y hy) ⟨j, hj, hx⟩
/-- one more, of which nothing is known -/
theorem RP.put {n : Nat} {es : List (ByteArray × Ty)} {t T : Ty} {zs : List ByteArray} {Ws : List Ty} (h : RP n es t zs Ws (some T)) {x : ByteArray} (hx : namesIn n T x) (hz : x ∉ zs) (hno : ∀ j (h : j < es.length), es[j].1 ≠ x) : RP n es t (zs ++ [x]) Ws (some T) where
  nd := List.nodup_append.2 ⟨h.nd, by simp, fun a ha b hb e => by simp at hb; subst hb; subst e; exact hz ha⟩
  rc := fun y hy => by
    rcases List.mem_append.1 hy with q | q
    · exact h.rc y q
    · simp at q; subst q; exact h.reach hx
  ws := fun U hU => (h.ws U hU).more x
  cu := fun U hU => (h.cu U hU).more x
  cl := fun U hU => by
    have hU' : Has es t zs U := by
      rcases hU with q | ⟨y, hy, j, hj, e⟩
      · exact .inl q
      · rcases List.mem_append.1 hy with q | q
        · exact .inr ⟨y, q, j, hj, e⟩
        · simp at q; subst q; exact absurd hj.2.1 (hno j hj.1)
    rcases h.cl U hU' with q | q | q
    · exact .inl q
    · exact .inr (.inl q)
    · exact .inr (.inr fun y hy => List.mem_append_left _ (q y hy))
/-- one more, and its type waits -/
theorem RP.put2 {n : Nat} {es : List (ByteArray × Ty)} {t T : Ty} {zs : List ByteArray} {Ws : List Ty} (h : RP n es t zs Ws (some T)) {x : ByteArray} (hx : namesIn n T x) (hz : x ∉ zs) {j : Nat} (hj : First es x j) : RP n es t (zs ++ [x]) (Ws ++ [(es[j]'hj.1).2]) (some T) where
  nd := List.nodup_append.2 ⟨h.nd, by simp, fun a ha b hb e => by simp at hb; subst hb; subst e; exact hz ha⟩
  rc := fun y hy => by
    rcases List.mem_append.1 hy with q | q
    · exact h.rc y q
    · simp at q; subst q; exact h.reach hx
  ws := fun U hU => by
    rcases List.mem_append.1 hU with q | q
    · exact (h.ws U q).more x
    · simp at q; exact .inr ⟨x, by simp, j, hj, q⟩
  cu := fun U hU => (h.cu U hU).more x
  cl := fun U hU => by
    rcases hU with q | ⟨y, hy, i, hi, e⟩
    · rcases h.cl U (.inl q) with q | q | q
      · exact .inl (List.mem_append_left _ q)
      · exact .inr (.inl q)
      · exact .inr (.inr fun y hy => List.mem_append_left _ (q y hy))
    · rcases List.mem_append.1 hy with q | q
      · rcases h.cl U (.inr ⟨y, q, i, hi, e⟩) with q | q | q
        · exact .inl (List.mem_append_left _ q)
        · exact .inr (.inl q)
        · exact .inr (.inr fun y hy => List.mem_append_left _ (q y hy))
      · simp at q
        subst q
        obtain rfl := hi.one hj
        exact .inl (List.mem_append_right _ (by simp [e]))
theorem RP.all {n : Nat} {es : List (ByteArray × Ty)} {t : Ty} {zs : List ByteArray} (h : RP n es t zs [] none) (x : ByteArray) : x ∈ zs ↔ Rch n es t x := by
  refine ⟨h.rc x, fun hr => ?_⟩
  obtain ⟨i, hr⟩ := hr
  induction i generalizing x with
  | zero =>
    rcases h.cl t (.inl rfl) with q | q | q
    · simp at q
    · cases q
    · exact q _ hr
  | succ i ih =>
    rcases hr with hr | ⟨y, hy, j, hj, hn⟩
    · exact ih x hr
    · rcases h.cl _ (.inr ⟨_, ih y hy, j, hj, rfl⟩) with q | q | q
      · simp at q
      · cases q
      · exact q _ hn
theorem RP.few {n : Nat} {es : List (ByteArray × Ty)} {t : Ty} {zs : List ByteArray} {Ws : List Ty} {cur : Option Ty} (h : RP n es t zs Ws cur) : zs.length ≤ (allNames n es t).length := nodup_len h.nd fun x hx => rch_all (h.rc x hx)

theorem env_nodes (n : Nat) (es : List (ByteArray × Ty)) : (es.flatMap fun e => (Ty.nodes n e.2).map (·.name)).length ≤ envBulk n es := by
  induction es with
  | nil => exact Nat.zero_le _
  | cons e r ih =>
    rw [List.flatMap_cons, List.length_append, List.length_map]
    have := nodes_len n e.2
    unfold envBulk nmBulk at ih ⊢
    rw [List.map_cons, List.sum_cons, List.length_cons]
    omega
theorem all_few (n : Nat) (es : List (ByteArray × Ty)) (t : Ty) : (allNames n es t).length ≤ 1 + Ty.bulk n t + envBulk n es := by
  unfold allNames
  rw [List.length_append, List.length_map]
  have h1 := nodes_len n t
  have h2 := env_nodes n es
  omega

/-- the names in their order -/
def sorted (zs : List ByteArray) : List ByteArray := ofKeys ((keysOf zs).mergeSort fun x y => decide (x ≤ y))
theorem sorted_mem (zs : List ByteArray) (x : ByteArray) : x ∈ sorted zs ↔ x ∈ zs := by
  unfold sorted
  rw [mem_ofKeys, (List.mergeSort_perm _ _).mem_iff, mem_keysOf]
theorem sorted_len (zs : List ByteArray) : (sorted zs).length = zs.length := by
  unfold sorted ofKeys keysOf
  rw [List.length_map, List.length_mergeSort, List.length_map]
theorem keys_nodup {zs : List ByteArray} (h : zs.Nodup) : (keysOf zs).Nodup := by
  unfold keysOf
  exact List.Pairwise.map _ (fun a b (hab : a ≠ b) e => hab (ba_inj e)) h
theorem sorted_asc {zs : List ByteArray} (h : zs.Nodup) : Asc (sorted zs) := by
  refine asc_ofKeys ?_
  have hp : ((keysOf zs).mergeSort fun x y => decide (x ≤ y)).Pairwise (fun a b => decide (a ≤ b) = true) := List.pairwise_mergeSort (fun a b c h k => by
    simp only [decide_eq_true_eq] at h k ⊢
    exact List.le_trans h k) (fun a b => by
    simp only [Bool.or_eq_true, decide_eq_true_eq]
    exact List.le_total a b) _
  have hn : ((keysOf zs).mergeSort fun x y => decide (x ≤ y)).Nodup := (List.mergeSort_perm _ _).nodup_iff.2 (keys_nodup h)
  refine (hp.and hn).imp ?_
  rintro a b ⟨h1, h2⟩
  simp only [decide_eq_true_eq] at h1
  by_cases c : a < b
  · exact c
  · exact absurd (List.le_antisymm h1 c) h2

end Go.Proofs.Yteocagdlbnhpgaa

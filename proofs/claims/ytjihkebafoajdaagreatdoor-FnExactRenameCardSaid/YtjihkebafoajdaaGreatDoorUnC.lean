/-
  The walk of slices.CompactFunc at forms with their texts, and of the function that it asks.
-/
import Derived.Test.YtjihkebafoajdaaGreatDoorUnP
import Derived.Test.YtjihkebafoajdaaGreatDoorToTy
import Derived.Lib.SliceRun
import Derived.Lib.QuietBelow
import Derived.BigQuiet
import Derived.WalkSmall
namespace Go.Proofs.YtjihkebafoajdaaGreatDoor
open Go.RowKit

/-- a form with its type; its text is told by that -/
structure WE where
  T : Nat
  x : Value
  t : Ty

def encW (n : Nat) (e : WE) : List Value := [.string (Ty.text n e.t), .iface e.T e.x]
def flatW (n : Nat) (l : List WE) : List Value := l.flatMap (encW n)
theorem flatW_len (n : Nat) (l : List WE) : (flatW n l).length = l.length * 2 := by
  induction l with
  | nil => rfl
  | cons a r ih =>
    unfold flatW at ih ⊢
    rw [List.flatMap_cons, List.length_append, ih, List.length_cons]
    show 2 + _ = _
    omega
theorem flatW_app (n : Nat) (a b : List WE) : flatW n (a ++ b) = flatW n a ++ flatW n b := by simp [flatW]
theorem flatW_get (n : Nat) (l : List WE) (j : Nat) (h : j < l.length) : (flatW n l)[j * 2]? = some (.string (Ty.text n l[j].t)) ∧ (flatW n l)[j * 2 + 1]? = some (.iface l[j].T l[j].x) := by
  induction l generalizing j with
  | nil => simp at h
  | cons a r ih =>
    cases j with
    | zero => exact ⟨rfl, rfl⟩
    | succ j =>
      have := ih j (by simpa using h)
      simp only [List.getElem_cons_succ]
      rw [show (j + 1) * 2 = j * 2 + 2 by omega, show j * 2 + 2 + 1 = j * 2 + 1 + 2 by omega]
      exact this
theorem flatW_set (n : Nat) (l : List WE) (j : Nat) (h : j < l.length) (e : WE) : ((flatW n l).set (j * 2) (.string (Ty.text n e.t))).set (j * 2 + 1) (.iface e.T e.x) = flatW n (l.set j e) := by
  induction l generalizing j with
  | nil => simp at h
  | cons a r ih =>
    cases j with
    | zero => rfl
    | succ j =>
      have := ih j (by simpa using h)
      rw [show (j + 1) * 2 = j * 2 + 2 by omega, show j * 2 + 2 + 1 = j * 2 + 1 + 2 by omega]
      show encW n a ++ _ = encW n a ++ _
      exact congrArg (encW n a ++ ·) this
theorem flatW_take (n : Nat) (l : List WE) (j : Nat) : (flatW n l).take (j * 2) = flatW n (l.take j) := by
  induction l generalizing j with
  | nil => simp [flatW]
  | cons a r ih =>
    cases j with
    | zero => simp [flatW]
    | succ j =>
      rw [show (j + 1) * 2 = j * 2 + 2 by omega, List.take_succ_cons]
      show encW n a ++ (flatW n r).take (j * 2) = encW n a ++ flatW n (r.take j)
      rw [ih]

theorem ownsRow_front {w : World} {base e size g cap n m : Nat} {xs : List Value} (h : w.ownsRow base e size (.slice (some ⟨g, 0, none⟩) n cap) n xs) (hm : m ≤ n) : w.ownsRow base e size (.slice (some ⟨g, 0, none⟩) m cap) m (xs.take (m * size)) := by
  obtain ⟨h1, h2⟩ := h
  have hle : m * size ≤ n * size := Nat.mul_le_mul_right _ hm
  rcases h2 with ⟨h0, _⟩ | ⟨g', cap', cur, hv, hg, hh, hn, hcap, hsz, htake⟩
  · cases h0
  · cases hv
    refine ⟨by rw [List.length_take, h1]; omega, .inr ⟨g, cap, cur, rfl, hg, hh, by omega, hcap, hsz, ?_⟩⟩
    rw [← htake, List.take_take, Nat.min_eq_left hle]
theorem own_clear {B e z g cap n : Nat} : ∀ (zs : List Value) (o : Nat) (w : World) (xs : List Value), w.ownsRow B e z (.slice (some ⟨g, 0, none⟩) n cap) n xs → ∃ ys, (w.setCells g o zs).ownsRow B e z (.slice (some ⟨g, 0, none⟩) n cap) n ys ∧ ys.take o = xs.take o ∧ Below g w (w.setCells g o zs)
  | [], o, w, xs, h => ⟨xs, h, rfl, Below.refl _ _⟩
  | v :: r, o, w, xs, h => by
    obtain ⟨h1, _⟩ := h.stored o v
    obtain ⟨ys, k1, k2, k3⟩ := own_clear r (o + 1) (w.setCell ⟨g, o, none⟩ v) _ h1
    refine ⟨ys, k1, ?_, ((Below.refl g w).setCell (Nat.le_refl _) v).trans k3⟩
    have := congrArg (List.take o) k2
    rw [List.take_take, List.take_take, Nat.min_eq_left (by omega)] at this
    rw [this, List.take_set_of_le (by omega)]
theorem run_clear_pairs {P : Program} (w : World) (t e : TypeId) (z0 z1 : Value) (ht : P.underlying t = some (.slice e)) (hv : ∀ w, (zeroValue e).run P w = .ok (.agg #[z0, z1]) w) (h0 : z0.oneCell' = true) (h1 : z1.oneCell' = true) (b o n c : Nat) (hn : 0 < n)
    (hc : ∀ j, j < n * 2 → (w.cell? ⟨b, o + j, none⟩).isSome = true) (hf : ∀ j, j < n * 2 → w.frozen? ⟨b, o + j, none⟩ = false) :
    ∃ zs, ∀ ty, (Builtin.clear_ #[t] ty #[.slice (some ⟨b, o, none⟩) n c]).run P w = .ok (.tuple #[]) (w.setCells b o zs) := by
  have hl : (Builtin.zeroCells #[z0, z1] n).toList.length = n * 2 := by simp [Builtin.zeroCells]
  have hm : ∀ v ∈ (Builtin.zeroCells #[z0, z1] n).toList, v.oneCell' = true := fun v hv => by
    simp only [Builtin.zeroCells, Array.toList_map, List.mem_map] at hv
    obtain ⟨i, _, rfl⟩ := hv
    have : i % 2 = 0 ∨ i % 2 = 1 := by omega
    rcases this with q | q
    · simp [q, h0]
    · simp [q, h1]
  have hst := run_storeCells_cells (P := P) b o (Builtin.zeroCells #[z0, z1] n).toList 0 w (by rw [hl]; simpa using hc) (by rw [hl]; simpa using hf) hm
  simp only [Nat.add_zero] at hst
  obtain ⟨m, rfl⟩ : ∃ m, n = m + 1 := ⟨n - 1, by omega⟩
  have hvc : (Value.agg #[z0, z1]).cells = #[z0, z1] := rfl
  refine ⟨(Builtin.zeroCells #[z0, z1] (m + 1)).toList, fun ty => ?_⟩
  simp [Builtin.clear_, run_underlying ht, hv, hvc, hst]

set_option maxHeartbeats 800000 in
set_option maxRecDepth 100000 in
theorem implWordEq (a b : ByteArray) (T T' : Nat) (x x' : Value) (w : World) :
    Calls Tryz.prog 45 #[.agg #[.string a, .iface T x], .agg #[.string b, .iface T' x']] w fun e w' => e = .returned (.bool (a.toList == b.toList)) ∧ Below w.heap.size w w' := by
  go_enter Tryz.func45, Tryz.ntmps45
  go_wp2_with fail
  go_ret
  exact ⟨rfl, ((Below.refl _ _).alloc (Nat.le_refl _) _).alloc (by simp) _⟩

/-- of so many of them those are kept -/
structure KeepP (f : WE → ByteArray) (E : List WE) (m : Nat) (L : List WE) : Prop where
  sub : ∀ e ∈ L, e ∈ E
  all : ∀ e ∈ E.take m, ∃ e' ∈ L, f e' = f e
  asc : L.Pairwise fun a b => lessB (f a) (f b)
  low : ∀ (h : m - 1 < E.length), ∀ e ∈ L, ¬ lessB (f E[m - 1]) (f e)
  few : L.length ≤ m
theorem ba_eq {a b : ByteArray} (h : a.toList = b.toList) : a = b := by
  rw [ByteArray.toList_eq, ByteArray.toList_eq] at h
  exact bt_inj h
theorem ba_total {a b : ByteArray} (h : ¬ lessB a b) (h' : ¬ lessB b a) : a = b := bt_inj (List.le_antisymm (List.not_lt.1 h') (List.not_lt.1 h))
theorem KeepP.one {f : WE → ByteArray} {E : List WE} (h : 0 < E.length) : KeepP f E 1 (E.take 1) where
  sub := fun e he => List.mem_of_mem_take he
  all := fun e he => ⟨e, he, rfl⟩
  asc := by
    obtain ⟨a, r, rfl⟩ : ∃ a r, E = a :: r := by cases E with | nil => simp at h | cons a r => exact ⟨a, r, rfl⟩
    simp
  low := fun hh e he => by
    obtain ⟨a, r, rfl⟩ : ∃ a r, E = a :: r := by cases E with | nil => simp at h | cons a r => exact ⟨a, r, rfl⟩
    simp only [List.take_succ_cons, List.take_zero, List.mem_singleton] at he
    subst he
    exact lessB_irr _
  few := by rw [List.length_take]; omega
theorem KeepP.same {f : WE → ByteArray} {E L : List WE} {m : Nat} (h : KeepP f E m L) (hm : 0 < m) (hl : m < E.length) (he : f E[m] = f (E[m - 1]'(by omega))) : KeepP f E (m + 1) L where
  sub := h.sub
  all := fun e q => by
    rw [List.take_succ_eq_append_getElem hl, List.mem_append, List.mem_singleton] at q
    rcases q with q | q
    · exact h.all e q
    · subst q
      obtain ⟨e', h1, h2⟩ := h.all (E[m - 1]'(by omega)) (List.mem_take_iff_getElem.2 ⟨m - 1, by omega, rfl⟩)
      exact ⟨e', h1, h2.trans he.symm⟩
  asc := h.asc
  low := fun hh e q => by
    show ¬ lessB (f E[m]) (f e)
    rw [he]
    exact h.low (by omega) e q
  few := by have := h.few; omega
theorem KeepP.more {f : WE → ByteArray} {E L : List WE} {m : Nat} (h : KeepP f E m L) (hm : 0 < m) (hl : m < E.length) (hs : ¬ lessB (f E[m]) (f (E[m - 1]'(by omega)))) (he : f E[m] ≠ f (E[m - 1]'(by omega))) : KeepP f E (m + 1) (L ++ [E[m]]) where
  sub := fun e q => by
    rcases List.mem_append.1 q with q | q
    · exact h.sub e q
    · simp only [List.mem_singleton] at q
      subst q
      exact List.getElem_mem hl
  all := fun e q => by
    rw [List.take_succ_eq_append_getElem hl, List.mem_append, List.mem_singleton] at q
    rcases q with q | q
    · obtain ⟨e', h1, h2⟩ := h.all e q
      exact ⟨e', List.mem_append_left _ h1, h2⟩
    · subst q
      exact ⟨_, List.mem_append_right _ (by simp), rfl⟩
  asc := by
    refine List.pairwise_append.2 ⟨h.asc, by simp, fun a ha b hb => ?_⟩
    simp only [List.mem_singleton] at hb
    subst hb
    have h1 := h.low (by omega) a ha
    have h2 : lessB (f (E[m - 1]'(by omega))) (f E[m]) := Classical.byContradiction fun q => he (ba_total hs q)
    -- a is no greater than the one ahead, which is less
    by_cases c : f a = f (E[m - 1]'(by omega))
    · rw [c]; exact h2
    · have h3 : lessB (f a) (f (E[m - 1]'(by omega))) := Classical.byContradiction fun q => c (ba_total q h1)
      exact List.lt_trans h3 h2
  low := fun hh e q => by
    show ¬ lessB (f E[m]) (f e)
    rcases List.mem_append.1 q with q | q
    · intro hlt
      have h1 := h.low (by omega) e q
      have h2 : lessB (f (E[m - 1]'(by omega))) (f E[m]) := Classical.byContradiction fun q => he (ba_total hs q)
      exact h1 (List.lt_trans h2 hlt)
    · simp only [List.mem_singleton] at q
      subst q
      exact lessB_irr _
  few := by have := h.few; simp; omega

end Go.Proofs.YtjihkebafoajdaaGreatDoor

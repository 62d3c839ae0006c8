/-
  What sameTrees holds in memory, plainly: one place, one list; pairs of slices with what they hold; what the stack costs.
-/
import Derived.Test.YtegdladpkikicaaSmP
import Derived.Test.YtegdladpkikicaaSmK
namespace Go.Proofs.Ytegdladpkikicaa
open Go.RowKit

theorem Texts.det {w : World} {v : Value} {ts us : List ByteArray} (h : Texts w v ts) (k : Texts w v us) : ts = us := by
  rcases h with ⟨h, a, cap, e⟩ | ⟨b, off, cap, e, hc⟩
  · rcases k with ⟨k, _⟩ | ⟨b', off', cap', e', hc'⟩
    · rw [h, k]
    · rw [e] at e'
      simp only [Value.slice.injEq] at e'
      rw [h]
      exact (List.length_eq_zero_iff.1 e'.2.1.symm).symm
  · rcases k with ⟨k, a', cap', e'⟩ | ⟨b', off', cap', e', hc'⟩
    · rw [e] at e'
      simp only [Value.slice.injEq] at e'
      rw [k]
      exact List.length_eq_zero_iff.1 e'.2.1
    · rw [e] at e'
      simp only [Value.slice.injEq, Option.some.injEq, Addr.mk.injEq, and_true] at e'
      obtain ⟨⟨rfl, rfl⟩, hl, _⟩ := e'
      refine List.ext_getElem hl fun j h1 h2 => ?_
      have := (hc j h1).symm.trans (hc' j h2)
      simpa using this
theorem RowZ.det {α : Type} {z : Nat} {w : World} {R R' : List Value → α → Prop} {a : Option Addr} {l c c' : Nat} {ts us : List α} (h : RowZ z w R (.slice a l c) ts) (k : RowZ z w R' (.slice a l c') us) (hl : ∀ cs t, R cs t → cs.length = z) (hl' : ∀ cs t, R' cs t → cs.length = z) (one : ∀ cs t u, R cs t → R' cs u → t = u) : ts = us := by
  have l1 : l = ts.length := by
    rcases h with ⟨h, a, cap, e⟩ | ⟨b, off, cap, e, _⟩
    · simp only [Value.slice.injEq] at e
      rw [h]
      exact e.2.1
    · simp only [Value.slice.injEq] at e
      exact e.2.1
  have l2 : l = us.length := by
    rcases k with ⟨h, a, cap, e⟩ | ⟨b, off, cap, e, _⟩
    · simp only [Value.slice.injEq] at e
      rw [h]
      exact e.2.1
    · simp only [Value.slice.injEq] at e
      exact e.2.1
  refine List.ext_getElem (by omega) fun j h1 h2 => ?_
  rcases h with ⟨h, _⟩ | ⟨b, off, cap, e, _, hc⟩
  · rw [h] at h1
    simp at h1
  · rcases k with ⟨k, _⟩ | ⟨b', off', cap', e', _, hc'⟩
    · rw [k] at h2
      simp at h2
    · simp only [Value.slice.injEq] at e e'
      have e3 := e.1.symm.trans e'.1
      simp only [Option.some.injEq, Addr.mk.injEq, and_true] at e3
      obtain ⟨rfl, rfl⟩ := e3
      obtain ⟨cs, r1, r2⟩ := hc j h1
      obtain ⟨ds, q1, q2⟩ := hc' j h2
      have n1 := hl _ _ r1
      have n2 := hl' _ _ q1
      obtain rfl : cs = ds := List.ext_getElem (by omega) fun i i1 i2 => by
        have p1 := r2 i _ (List.getElem?_eq_getElem i1)
        have p2 := q2 i _ (List.getElem?_eq_getElem i2)
        exact Option.some.inj (p1.symm.trans p2)
      exact one _ _ _ r1 q1
theorem RowZ.detV {α : Type} {z : Nat} {w : World} {R R' : List Value → α → Prop} {v : Value} {ts us : List α} (h : RowZ z w R v ts) (k : RowZ z w R' v us) (hl : ∀ cs t, R cs t → cs.length = z) (hl' : ∀ cs t, R' cs t → cs.length = z) (one : ∀ cs t u, R cs t → R' cs u → t = u) : ts = us := by
  obtain ⟨a, l, c, rfl⟩ : ∃ a l c, v = .slice a l c := by
    rcases h with ⟨_, a, cap, e⟩ | ⟨b, off, cap, e, _⟩
    · exact ⟨a, 0, cap, e⟩
    · exact ⟨_, _, cap, e⟩
  exact h.det k hl hl' one
/-- a pair of slices, what they hold, and how deep -/
structure PE (α : Type) where
  aa : Option Addr
  ac : Nat
  ba : Option Addr
  bc : Nat
  p : PairL α
  n : Nat
def PE.va {α : Type} (e : PE α) : Value := .slice e.aa e.p.la.length e.ac
def PE.vb {α : Type} (e : PE α) : Value := .slice e.ba e.p.lb.length e.bc
def PE.key {α : Type} (e : PE α) : KeyP := ⟨e.aa, e.p.la.length, e.ba, e.p.lb.length⟩
/-- the pairs, one behind the other -/
def flatPE {α : Type} (S : List (PE α)) : List Value := S.flatMap fun e => [e.va, e.vb]
theorem flatPE_length {α : Type} (S : List (PE α)) : (flatPE S).length = S.length * 2 := by
  induction S with
  | nil => rfl
  | cons e r ih =>
    have : flatPE (e :: r) = [e.va, e.vb] ++ flatPE r := rfl
    rw [this, List.length_append, ih]
    simp only [List.length_cons, List.length_nil]
    omega
theorem flatPE_app {α : Type} (a b : List (PE α)) : flatPE (a ++ b) = flatPE a ++ flatPE b := by simp [flatPE]
def costS {α : Type} (kids : α → List α) (S : List (PE α)) : Nat := (S.map fun e => costL kids e.n e.p.la).sum
theorem costL_pos {α : Type} (kids : α → List α) (n : Nat) (l : List α) : 1 ≤ costL kids n l := by
  cases n with
  | zero => exact Nat.le_refl _
  | succ n => rw [costL]; omega
theorem costS_app {α : Type} (kids : α → List α) (a b : List (PE α)) : costS kids (a ++ b) = costS kids a + costS kids b := by simp [costS]
theorem costS_len {α : Type} (kids : α → List α) (S : List (PE α)) : S.length ≤ costS kids S := by
  induction S with
  | nil => simp
  | cons e r ih =>
    have := costL_pos kids e.n e.p.la
    unfold costS at ih ⊢
    simp only [List.map_cons, List.sum_cons, List.length_cons]
    omega

theorem TyW.det {w : World} : ∀ {n m : Nat} {cs : List Value} {t u : Ty}, TyW w n cs t → TyW w m cs u → t = u := by
  intro n
  induction n with
  | zero => intro m cs t u h; exact h.elim
  | succ n ih =>
    intro m cs t u h k
    cases m with
    | zero => exact k.elim
    | succ m =>
      obtain ⟨vn, vk, e1, _, _, ⟨hn, _⟩, _, hk⟩ := h
      obtain ⟨vn2, vk2, e2, _, _, ⟨hn2, _⟩, _, hk2⟩ := k
      rw [e1] at e2
      simp only [List.cons.injEq, Value.int.injEq, Value.string.injEq, true_and, and_true] at e2
      obtain ⟨h1, h2, rfl, rfl⟩ := e2
      have h3 := hn.det hn2
      have h4 := hk.detV hk2 (fun _ _ h => h.len) (fun _ _ h => h.len) fun cs t u h k => ih h k
      cases t
      cases u
      simp only at h1 h2 h3 h4
      rw [h1, h2, h3, h4]
theorem costT_le {w : World} : ∀ (n : Nat) (v : Value) (ks : List Ty), RowZ 4 w (TyW w n) v ks → costL Ty.kids n ks ≤ 1 + bulkA (Ty.bulk n) ks := by
  intro n
  induction n with
  | zero => intro v ks h; simp [costL]
  | succ n ih =>
    intro v ks h
    have one : ∀ a ∈ ks, costL Ty.kids n a.kids ≤ 1 + Ty.bulk (n + 1) a := fun a ha => by
      obtain ⟨j, hj, rfl⟩ := List.getElem_of_mem ha
      rcases h with ⟨e, _⟩ | ⟨b, off, cap, e, _, hc⟩
      · rw [e] at hj
        simp at hj
      · obtain ⟨cs, h1, _⟩ := hc j hj
        obtain ⟨vn, vk, _, _, _, _, _, hk⟩ := h1
        have := ih vk _ hk
        rw [Ty.bulk]
        unfold bulkA sumA at this
        omega
    rw [costL]
    unfold bulkA sumA
    clear h
    induction ks with
    | nil => simp
    | cons a r ih2 =>
      have h1 := one a (List.mem_cons_self ..)
      have h2 := ih2 fun x hx => one x (List.mem_cons_of_mem _ hx)
      simp only [List.map_cons, List.sum_cons, List.length_cons]
      omega

theorem XpW.det {w : World} : ∀ {n m : Nat} {cs : List Value} {t u : Xp}, XpW w n cs t → XpW w m cs u → t = u := by
  intro n
  induction n with
  | zero => intro m cs t u h; exact h.elim
  | succ n ih =>
    intro m cs t u h k
    cases m with
    | zero => exact k.elim
    | succ m =>
      obtain ⟨vn, vk, e1, _, ⟨hn, _⟩, _, hk⟩ := h
      obtain ⟨vn2, vk2, e2, _, ⟨hn2, _⟩, _, hk2⟩ := k
      rw [e1] at e2
      simp only [List.cons.injEq, Value.int.injEq, Value.string.injEq, true_and, and_true] at e2
      obtain ⟨h1, h2, h5, h6, rfl, rfl⟩ := e2
      have h3 := hn.det hn2
      have h4 := hk.detV hk2 (fun _ _ h => h.len) (fun _ _ h => h.len) fun cs t u h k => ih h k
      cases t
      cases u
      simp only at h1 h2 h3 h4 h5 h6
      rw [h1, h2, h3, h4, h5, h6]
theorem costX_le {w : World} : ∀ (n : Nat) (v : Value) (ks : List Xp), RowZ 6 w (XpW w n) v ks → costL Xp.kids n ks ≤ 1 + bulkA (Xp.bulk n) ks := by
  intro n
  induction n with
  | zero => intro v ks h; simp [costL]
  | succ n ih =>
    intro v ks h
    have one : ∀ a ∈ ks, costL Xp.kids n a.kids ≤ 1 + Xp.bulk (n + 1) a := fun a ha => by
      obtain ⟨j, hj, rfl⟩ := List.getElem_of_mem ha
      rcases h with ⟨e, _⟩ | ⟨b, off, cap, e, _, hc⟩
      · rw [e] at hj
        simp at hj
      · obtain ⟨cs, h1, _⟩ := hc j hj
        obtain ⟨vn, vk, _, _, _, _, hk⟩ := h1
        have := ih vk _ hk
        rw [Xp.bulk]
        unfold bulkA sumA at this
        omega
    rw [costL]
    unfold bulkA sumA
    clear h
    induction ks with
    | nil => simp
    | cons a r ih2 =>
      have h1 := one a (List.mem_cons_self ..)
      have h2 := ih2 fun x hx => one x (List.mem_cons_of_mem _ hx)
      simp only [List.map_cons, List.sum_cons, List.length_cons]
      omega

/-- a row one shorter -/
theorem ownCutZ {w : World} {B e z g cap n : Nat} {xs ys : List Value} (h : w.ownsRow B e z (.slice (some ⟨g, 0, none⟩) (n + 1) cap) (n + 1) (xs ++ ys)) (hx : xs.length = n * z) : w.ownsRow B e z (.slice (some ⟨g, 0, none⟩) n cap) n xs := by
  obtain ⟨h1, h2⟩ := h
  refine ⟨hx, ?_⟩
  rcases h2 with ⟨h, _⟩ | ⟨g', cap', cur, hv, hB, hh, hn, hc, hz, ht⟩
  · simp at h
  · simp only [Value.slice.injEq, Option.some.injEq, Addr.mk.injEq, true_and, and_true] at hv
    obtain ⟨rfl, rfl⟩ := hv
    refine .inr ⟨g, cap, cur, rfl, hB, hh, by omega, hc, hz, ?_⟩
    have e : (cur.toList.take ((n + 1) * z)).take (n * z) = cur.toList.take (n * z) := by
      rw [List.take_take]
      congr 1
      exact Nat.min_eq_left (Nat.mul_le_mul_right z (by omega))
    rw [← e, ht, List.take_left' hx]

end Go.Proofs.Ytegdladpkikicaa

/-
  What a union of right types is. No program here.
-/
import Derived.Test.YtbojmbeopnlmiaaGreatDoorTxJ
namespace Go.Proofs.YtbojmbeopnlmiaaGreatDoor
open Go.RowKit

theorem map_same {α : Type} {f g : Ty → α} {l : List Ty} (h : ∀ k ∈ l, f k = g k) : l.map f = l.map g := List.map_congr_left h
theorem zip_same {f g : Ty → ByteArray} {l : List ByteArray} {m : List Ty} (h : ∀ k ∈ m, f k = g k) : fieldsP f l m = fieldsP g l m := by
  unfold fieldsP
  induction l generalizing m with
  | nil => simp
  | cons x r ih =>
    cases m with
    | nil => simp
    | cons k m =>
      simp only [List.zipWith_cons_cons]
      rw [h k (by simp), ih fun q hq => h q (List.mem_cons_of_mem _ hq)]
theorem text_up {n : Nat} {t : Ty} {d : Int} (h : Right n t d) : Ty.text (n + 1) t = Ty.text n t := by
  induction n generalizing t d with
  | zero => exact h.elim
  | succ n ih =>
    have hk : ∀ k ∈ t.kids, Ty.text (n + 1) k = Ty.text n k := fun k hk => ih (h.2.1 k hk)
    have hd : t.kids.dropLast.map (Ty.text (n + 1)) = t.kids.dropLast.map (Ty.text n) := map_same fun k hk' => hk k (List.dropLast_subset _ hk')
    have hr : (t.kids.map fun k => roundP 6 k (Ty.text (n + 1) k)) = t.kids.map fun k => roundP 6 k (Ty.text n k) := map_same fun k hk' => by rw [hk k hk']
    have hf : fieldsP (Ty.text (n + 1)) t.names t.kids = fieldsP (Ty.text n) t.names t.kids := zip_same hk
    have hl : t.kind = 6 → Ty.text (n + 1) (lastTy t.kids) = Ty.text n (lastTy t.kids) := fun h6 => hk _ (lastTy_mem (right_fn h h6).2.2).1
    rw [Ty.text.eq_2 t (n + 1), Ty.text.eq_2 t n, hd, hr, hf]
    by_cases c6 : t.kind = 6
    · rw [hl c6]
    · rw [if_neg c6, if_neg c6]
theorem right_up {n : Nat} {t : Ty} {d : Int} (h : Right n t d) : Right (n + 1) t d := by
  induction n generalizing t d with
  | zero => exact h.elim
  | succ n ih =>
    refine ⟨h.1, fun k hk => ih (h.2.1 k hk), ?_⟩
    rcases h.2.2 with q | q | q | q | ⟨q1, q2, q3⟩
    · exact .inl q
    · exact .inr (.inl q)
    · exact .inr (.inr (.inl q))
    · exact .inr (.inr (.inr (.inl q)))
    · refine .inr (.inr (.inr (.inr ⟨q1, fun i hi => ⟨(q2 i hi).1, fun h0 => ?_⟩, q3⟩)))
      rw [text_up (h.2.1 _ (List.getElem_mem hi)), text_up (h.2.1 _ (List.getElem_mem _))]
      exact (q2 i hi).2 h0
theorem bulk_up {n : Nat} {t : Ty} {d : Int} (h : Right n t d) : Ty.bulk (n + 1) t = Ty.bulk n t := by
  induction n generalizing t d with
  | zero => exact h.elim
  | succ n ih =>
    rw [Ty.bulk, Ty.bulk, map_same fun k hk => ih (h.2.1 k hk)]

/-- how deep it is -/
def Ty.hgt : Nat → Ty → Nat
  | 0, _ => 0
  | n + 1, t => t.kids.foldl (fun m k => max m (Ty.hgt n k + 1)) 0
theorem fold_max (f : Ty → Nat) (l : List Ty) (a : Nat) (b : Int) : ((l.foldl (fun m k => max m (f k + 1)) a : Nat) : Int) ≤ b ↔ (a : Int) ≤ b ∧ ∀ k ∈ l, (f k : Int) + 1 ≤ b := by
  induction l generalizing a with
  | nil => simp
  | cons x r ih =>
    rw [List.foldl_cons, ih]
    constructor
    · rintro ⟨h1, h2⟩
      refine ⟨by omega, fun k hk => ?_⟩
      rcases List.mem_cons.1 hk with rfl | hk
      · omega
      · exact h2 k hk
    · rintro ⟨h1, h2⟩
      have := h2 x (by simp)
      exact ⟨by omega, fun k hk => h2 k (List.mem_cons_of_mem _ hk)⟩
theorem right_hgt {n : Nat} {t : Ty} {d d' : Int} (h : Right n t d) : Right n t d' ↔ (Ty.hgt n t : Int) ≤ d' := by
  induction n generalizing t d d' with
  | zero => exact h.elim
  | succ n ih =>
    rw [Ty.hgt, fold_max]
    constructor
    · rintro ⟨h1, h2, _⟩
      exact ⟨h1, fun k hk => by have := (ih (h.2.1 k hk)).1 (h2 k hk); omega⟩
    · rintro ⟨h1, h2⟩
      exact ⟨h1, fun k hk => (ih (h.2.1 k hk)).2 (by have := h2 k hk; omega), h.2.2⟩
theorem right_hgt_le {n : Nat} {t : Ty} {d : Int} (h : Right n t d) : (Ty.hgt n t : Int) ≤ d := (right_hgt h).1 h

/-- what a union of them is made of -/
def atoms (ts : List Ty) : List Ty := ts.flatMap fun t => if t.kind = 7 then t.kids else [t]
theorem atoms_app (a b : List Ty) : atoms (a ++ b) = atoms a ++ atoms b := by simp [atoms]
theorem atom_of {ts : List Ty} {x : Ty} : x ∈ atoms ts ↔ ∃ t ∈ ts, (t.kind = 7 ∧ x ∈ t.kids) ∨ (t.kind ≠ 7 ∧ x = t) := by
  unfold atoms
  rw [List.mem_flatMap]
  constructor
  · rintro ⟨t, ht, hx⟩
    by_cases c : t.kind = 7
    · rw [if_pos c] at hx
      exact ⟨t, ht, .inl ⟨c, hx⟩⟩
    · rw [if_neg c] at hx
      exact ⟨t, ht, .inr ⟨c, List.mem_singleton.1 hx⟩⟩
  · rintro ⟨t, ht, ⟨c, hx⟩ | ⟨c, rfl⟩⟩
    · exact ⟨t, ht, by rw [if_pos c]; exact hx⟩
    · exact ⟨x, ht, by rw [if_neg c]; simp⟩
theorem atom_right {n : Nat} {ts : List Ty} {d : Int} (h : ∀ t ∈ ts, Right n t d) {x : Ty} (hx : x ∈ atoms ts) : Right n x d ∧ x.kind ≠ 7 := by
  obtain ⟨t, ht, ⟨c, hk⟩ | ⟨c, rfl⟩⟩ := atom_of.1 hx
  · have hr := h t ht
    cases n with
    | zero => exact hr.elim
    | succ n =>
      have hkr := right_up (hr.2.1 x hk)
      refine ⟨(right_hgt hkr).2 ?_, ((right_union hr c).2.2.1 x hk).1⟩
      have := right_hgt_le hkr
      omega
  · exact ⟨h x ht, c⟩
theorem atom_any {n : Nat} {ts : List Ty} {d : Int} (h : ∀ t ∈ ts, Right n t d) (ha : ∀ t ∈ ts, t.kind ≠ 3) {x : Ty} (hx : x ∈ atoms ts) : x.kind ≠ 3 := by
  obtain ⟨t, ht, ⟨c, hk⟩ | ⟨c, rfl⟩⟩ := atom_of.1 hx
  · have hr := h t ht
    cases n with
    | zero => exact hr.elim
    | succ n => exact ((right_union hr c).2.2.1 x hk).2
  · exact ha x ht
theorem atoms_some {n : Nat} {ts : List Ty} {d : Int} (h : ∀ t ∈ ts, Right n t d) (h0 : ts ≠ []) : ∃ x, x ∈ atoms ts := by
  cases ts with
  | nil => exact absurd rfl h0
  | cons t r =>
    by_cases c : t.kind = 7
    · have hr := h t (by simp)
      cases n with
      | zero => exact hr.elim
      | succ n =>
        obtain ⟨_, _, _, a, b, q, e⟩ := right_union hr c
        exact ⟨a, atom_of.2 ⟨t, by simp, .inl ⟨c, by rw [e]; simp⟩⟩⟩
    · exact ⟨t, atom_of.2 ⟨t, by simp, .inr ⟨c, rfl⟩⟩⟩

theorem lessB_irr (a : ByteArray) : ¬ lessB a a := fun h => List.lt_irrefl _ h
theorem lessB_asymm {a b : ByteArray} (h : lessB a b) (h' : lessB b a) : False := List.lt_asymm h h'
/-- lists that ascend and have the same in them are one -/
theorem asc_one {f : Ty → ByteArray} {S S' : List Ty} (h : S.Pairwise fun a b => lessB (f a) (f b)) (h' : S'.Pairwise fun a b => lessB (f a) (f b)) (hm : ∀ x, x ∈ S ↔ x ∈ S') : S = S' := by
  induction S generalizing S' with
  | nil =>
    cases S' with
    | nil => rfl
    | cons b r' => exact absurd ((hm b).2 (by simp)) (by simp)
  | cons a r ih =>
    cases S' with
    | nil => exact absurd ((hm a).1 (by simp)) (by simp)
    | cons b r' =>
      rw [List.pairwise_cons] at h h'
      have hab : a = b := by
        rcases List.mem_cons.1 ((hm a).1 (by simp)) with e | e
        · exact e
        · rcases List.mem_cons.1 ((hm b).2 (by simp)) with e' | e'
          · exact e'.symm
          · exact (lessB_asymm (h.1 b e') (h'.1 a e)).elim
      subst hab
      rw [ih h.2 h'.2 fun x => ?_]
      constructor
      · intro hx
        rcases List.mem_cons.1 ((hm x).1 (List.mem_cons_of_mem _ hx)) with e | e
        · subst e; exact absurd (h.1 x hx) (lessB_irr _)
        · exact e
      · intro hx
        rcases List.mem_cons.1 ((hm x).2 (List.mem_cons_of_mem _ hx)) with e | e
        · subst e; exact absurd (h'.1 x hx) (lessB_irr _)
        · exact e

/-- the kids of the union of types -/
def UnionS (n : Nat) (ts S : List Ty) : Prop := (∀ x, x ∈ S ↔ x ∈ atoms ts) ∧ S.Pairwise fun a b => lessB (Ty.text n a) (Ty.text n b)
theorem UnionS.one {n : Nat} {ts S S' : List Ty} (h : UnionS n ts S) (h' : UnionS n ts S') : S = S' := asc_one h.2 h'.2 fun x => (h.1 x).trans (h'.1 x).symm

/-- what Union answers -/
def UAns (n : Nat) (ts : List Ty) (t : Ty) (ok : Bool) : Prop :=
  (ok = false ∧ t = .mk 0 ⟨#[]⟩ [] [] ∧ (ts = [] ∨ ¬ ∀ q ∈ ts, Right n q 12)) ∨
  ((ts ≠ [] ∧ ∀ q ∈ ts, Right n q 12) ∧ (((∃ q ∈ ts, q.kind = 3) ∧ ok = true ∧ t = .mk 3 ⟨#[]⟩ [] []) ∨
    ((∀ q ∈ ts, q.kind ≠ 3) ∧ ∃ S, UnionS n ts S ∧ ((S.length = 1 ∧ ok = true ∧ S = [t]) ∨ (1 < S.length ∧ (∀ s ∈ S, Right n s 11) ∧ ok = true ∧ t = .mk 7 ⟨#[]⟩ [] S) ∨ (1 < S.length ∧ (¬ ∀ s ∈ S, Right n s 11) ∧ ok = false ∧ t = .mk 0 ⟨#[]⟩ [] [])))))
theorem UAns.one {n : Nat} {ts : List Ty} {t t' : Ty} {ok ok' : Bool} (h : UAns n ts t ok) (h' : UAns n ts t' ok') : t = t' ∧ ok = ok' := by
  rcases h with ⟨rfl, rfl, h⟩ | ⟨⟨h1, h2⟩, h⟩
  · rcases h' with ⟨rfl, rfl, _⟩ | ⟨⟨h1, h2⟩, _⟩
    · exact ⟨rfl, rfl⟩
    · rcases h with h | h
      · exact absurd h h1
      · exact absurd h2 h
  · rcases h' with ⟨rfl, rfl, h'⟩ | ⟨_, h'⟩
    · rcases h' with h' | h'
      · exact absurd h' h1
      · exact absurd h2 h'
    · rcases h with ⟨⟨q, hq, h3⟩, rfl, rfl⟩ | ⟨hn, S, hS, h⟩
      · rcases h' with ⟨_, rfl, rfl⟩ | ⟨hn, _⟩
        · exact ⟨rfl, rfl⟩
        · exact absurd h3 (hn q hq)
      · rcases h' with ⟨⟨q, hq, h3⟩, _⟩ | ⟨_, S', hS', h'⟩
        · exact absurd h3 (hn q hq)
        · have e := hS.one hS'
          subst e
          rcases h with ⟨l1, rfl, e1⟩ | ⟨l1, r1, rfl, rfl⟩ | ⟨l1, r1, rfl, rfl⟩
          · rcases h' with ⟨_, rfl, e2⟩ | ⟨l2, _⟩ | ⟨l2, _⟩
            · rw [e1] at e2
              simp only [List.cons.injEq, and_true] at e2
              exact ⟨e2, rfl⟩
            · omega
            · omega
          · rcases h' with ⟨l2, _⟩ | ⟨_, _, rfl, rfl⟩ | ⟨_, r2, _⟩
            · omega
            · exact ⟨rfl, rfl⟩
            · exact absurd r1 r2
          · rcases h' with ⟨l2, _⟩ | ⟨_, r2, _⟩ | ⟨_, _, rfl, rfl⟩
            · omega
            · exact absurd r2 r1
            · exact ⟨rfl, rfl⟩
/-- when such a union is right -/
theorem union_right {n : Nat} {ts S : List Ty} (h : UnionS n ts S) (hr : ∀ q ∈ ts, Right n q 12) (hn : ∀ q ∈ ts, q.kind ≠ 3) (h1 : 1 < S.length) : Right (n + 1) (.mk 7 ⟨#[]⟩ [] S) 12 ↔ ∀ s ∈ S, Right n s 11 := by
  constructor
  · exact fun h s hs => h.2.1 s hs
  · intro hs
    refine ⟨by omega, hs, .inr (.inr (.inr (.inr ⟨rfl, fun i hi => ⟨?_, fun h0 => ?_⟩, rfl, rfl, h1⟩)))⟩
    · have hx := (h.1 _).1 (List.getElem_mem hi)
      exact ⟨(atom_right hr hx).2, atom_any hr hn hx⟩
    · exact List.pairwise_iff_getElem.1 h.2 (i - 1) i _ hi (by omega)
theorem sum_sub {f : Ty → Nat} {l m : List Ty} (h : l.Nodup) (hs : ∀ x ∈ l, x ∈ m) : (l.map f).sum + l.length ≤ (m.map f).sum + m.length := by
  induction l generalizing m with
  | nil => simp
  | cons a r ih =>
    rw [List.nodup_cons] at h
    obtain ⟨u, v, rfl⟩ := List.append_of_mem (hs a (by simp))
    have h1 := ih (m := u ++ v) h.2 fun x hx => by
      have hne : x ≠ a := fun e => h.1 (e ▸ hx)
      have := hs x (List.mem_cons_of_mem _ hx)
      simp only [List.mem_append, List.mem_cons] at this ⊢
      rcases this with h | h | h
      · exact .inl h
      · exact absurd h hne
      · exact .inr h
    simp only [List.map_append, List.sum_append, List.length_append, List.map_cons, List.sum_cons, List.length_cons] at h1 ⊢
    omega
theorem UnionS.nodup {n : Nat} {ts S : List Ty} (h : UnionS n ts S) : S.Nodup := List.Pairwise.imp (fun {a b} (hab : lessB (Ty.text n a) (Ty.text n b)) (e : a = b) => lessB_irr _ (by rw [e] at hab; exact hab)) h.2
theorem atoms_bulk {n : Nat} {ts : List Ty} (h : ∀ t ∈ ts, Right n t 12) : ((atoms ts).map (Ty.bulk n)).sum + (atoms ts).length ≤ (ts.map (Ty.bulk n)).sum + ts.length := by
  induction ts with
  | nil => simp [atoms]
  | cons t r ih =>
    have h1 := ih fun q hq => h q (List.mem_cons_of_mem _ hq)
    have ht := h t (by simp)
    rw [show t :: r = [t] ++ r from rfl, atoms_app]
    have h2 : ((atoms [t]).map (Ty.bulk n)).sum + (atoms [t]).length ≤ Ty.bulk n t + 1 := by
      unfold atoms
      rw [List.flatMap_singleton]
      by_cases c : t.kind = 7
      · rw [if_pos c]
        cases n with
        | zero => exact ht.elim
        | succ n =>
          have e : t.kids.map (Ty.bulk (n + 1)) = t.kids.map (Ty.bulk n) := map_same fun k hk => bulk_up (ht.2.1 k hk)
          rw [e]
          have : Ty.bulk (n + 1) t = t.name.size + (t.names.length + Ty.textsBulk t.names) + (t.kids.length + (t.kids.map (Ty.bulk n)).sum) := rfl
          omega
      · rw [if_neg c]
        simp
    simp only [List.map_append, List.sum_append, List.length_append, List.map_cons, List.map_nil, List.sum_cons, List.sum_nil, List.length_singleton] at h2 ⊢
    omega
theorem UnionS.bulk {n : Nat} {ts S : List Ty} (h : UnionS n ts S) (hr : ∀ t ∈ ts, Right n t 12) : S.length + (S.map (Ty.bulk n)).sum ≤ ts.length + (ts.map (Ty.bulk n)).sum := by
  have h1 := sum_sub (f := Ty.bulk n) h.nodup fun x hx => (h.1 x).1 hx
  have h2 := atoms_bulk hr
  omega

end Go.Proofs.YtbojmbeopnlmiaaGreatDoor

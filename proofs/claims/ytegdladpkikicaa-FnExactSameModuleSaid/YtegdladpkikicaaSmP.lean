/-
  Trees that are the same, plainly: by what each is alone and by their kids. No program here.
-/
import Derived.Test.YtegdladpkikicaaXpD
namespace Go.Proofs.Ytegdladpkikicaa

/-- the same to a depth -/
def sameD {α : Type} (hs : α → α → Prop) (kids : α → List α) : Nat → α → α → Prop
  | 0, _, _ => True
  | d + 1, a, b => hs a b ∧ (kids a).length = (kids b).length ∧ ∀ j (h : j < (kids a).length) (h' : j < (kids b).length), sameD hs kids d (kids a)[j] (kids b)[j]
/-- the same -/
def SameT {α : Type} (hs : α → α → Prop) (kids : α → List α) (a b : α) : Prop := ∀ d, sameD hs kids d a b
def SameL {α : Type} (hs : α → α → Prop) (kids : α → List α) (la lb : List α) : Prop := la.length = lb.length ∧ ∀ j (h : j < la.length) (h' : j < lb.length), SameT hs kids la[j] lb[j]
theorem sameT_iff {α : Type} {hs : α → α → Prop} {kids : α → List α} {a b : α} : SameT hs kids a b ↔ hs a b ∧ SameL hs kids (kids a) (kids b) := by
  constructor
  · intro h
    exact ⟨(h 1).1, (h 1).2.1, fun j h1 h2 d => (h (d + 1)).2.2 j h1 h2⟩
  · rintro ⟨h1, h2, h3⟩ d
    cases d with
    | zero => trivial
    | succ d => exact ⟨h1, h2, fun j k1 k2 => h3 j k1 k2 d⟩
theorem SameL.nil {α : Type} {hs : α → α → Prop} {kids : α → List α} : SameL hs kids [] [] := ⟨rfl, fun j h => by simp at h⟩
def TyHs (a b : Ty) : Prop := a.kind = b.kind ∧ a.name = b.name ∧ a.names = b.names
def XpHs (a b : Xp) : Prop := a.kind = b.kind ∧ a.text = b.text ∧ a.n = b.n ∧ a.names = b.names
abbrev TySame (a b : Ty) : Prop := SameT TyHs Ty.kids a b
abbrev XpSame (a b : Xp) : Prop := SameT XpHs Xp.kids a b
/-- definitions that are the same but for their lines -/
def DfSame (a b : Df) : Prop := a.kind = b.kind ∧ a.name = b.name ∧ a.params = b.params ∧ a.typed = b.typed ∧ SameL TyHs Ty.kids a.types b.types ∧ TySame a.ty b.ty ∧ XpSame a.exp b.exp
def MdSame (im im' : List ByteArray) (ds ds' : List Df) : Prop := im = im' ∧ ds.length = ds'.length ∧ ∀ j (h : j < ds.length) (h' : j < ds'.length), DfSame ds[j] ds'[j]

/-- a pair of lists, to a depth -/
structure PairL (α : Type) where
  la : List α
  lb : List α
/-- what the stack of pairs costs: to a depth -/
def costL {α : Type} (kids : α → List α) : Nat → List α → Nat
  | 0, _ => 1
  | n + 1, la => 1 + (la.map fun a => costL kids n (kids a)).sum
/-- the walk over pairs: what is on the stack, what was seen -/
structure SmInv {α : Type} (hs : α → α → Prop) (kids : α → List α) (rt : PairL α) (S D : List (PairL α)) : Prop where
  /-- the root was begun with -/
  root : rt ∈ S ∨ rt ∈ D ∨ rt.la = [] ∧ rt.lb = []
  /-- what was seen is alike, and its kids are known -/
  seen : ∀ p ∈ D, p.la.length = p.lb.length ∧ ∀ j (h : j < p.la.length) (h' : j < p.lb.length), hs p.la[j] p.lb[j] ∧ ((⟨kids p.la[j], kids p.lb[j]⟩ : PairL α) ∈ S ∨ (⟨kids p.la[j], kids p.lb[j]⟩ : PairL α) ∈ D ∨ kids p.la[j] = [] ∧ kids p.lb[j] = [])
  /-- nothing else is asked -/
  only : SameL hs kids rt.la rt.lb → ∀ p ∈ S, SameL hs kids p.la p.lb
theorem SmInv.start {α : Type} {hs : α → α → Prop} {kids : α → List α} {p : PairL α} : SmInv hs kids p [p] [] :=
  ⟨.inl (List.mem_cons_self ..), fun q hq => (List.not_mem_nil hq).elim, fun h q hq => by
    rcases List.mem_cons.1 hq with rfl | hq
    · exact h
    · exact (List.not_mem_nil hq).elim⟩
/-- at the end all was the same -/
theorem SmInv.yes {α : Type} {hs : α → α → Prop} {kids : α → List α} {p : PairL α} {D : List (PairL α)} (h : SmInv hs kids p [] D) : SameL hs kids p.la p.lb := by
  have all : ∀ d, ∀ q ∈ D, ∀ j (h1 : j < q.la.length) (h2 : j < q.lb.length), sameD hs kids d q.la[j] q.lb[j] := by
    intro d
    induction d with
    | zero => intros; trivial
    | succ d ih =>
      intro q hq j h1 h2
      obtain ⟨k1, k2⟩ := (h.seen q hq).2 j h1 h2
      rcases k2 with k | k | ⟨e1, e2⟩
      · exact (List.not_mem_nil k).elim
      · exact ⟨k1, (h.seen _ k).1, fun i i1 i2 => ih _ k i i1 i2⟩
      · exact ⟨k1, by rw [e1, e2], fun i i1 => by rw [e1] at i1; simp at i1⟩
  rcases h.root with k | k | ⟨e1, e2⟩
  · exact (List.not_mem_nil k).elim
  · exact ⟨(h.seen p k).1, fun j h1 h2 d => all d p k j h1 h2⟩
  · rw [e1, e2]
    exact SameL.nil
/-- a pair of nothing, or one that was seen, is taken off -/
theorem SmInv.skip {α : Type} {hs : α → α → Prop} {kids : α → List α} {p q : PairL α} {S D : List (PairL α)} (h : SmInv hs kids p (S ++ [q]) D) (hq : q ∈ D ∨ q.la = [] ∧ q.lb = []) : SmInv hs kids p S D := by
  have mv : ∀ r : PairL α, (r ∈ S ++ [q] ∨ r ∈ D ∨ r.la = [] ∧ r.lb = []) → r ∈ S ∨ r ∈ D ∨ r.la = [] ∧ r.lb = [] := fun r hr => by
    rcases hr with k | k
    · rcases List.mem_append.1 k with k | k
      · exact .inl k
      · obtain rfl := List.mem_singleton.1 k
        exact .inr hq
    · exact .inr k
  exact ⟨mv p h.root, fun r hr => ⟨(h.seen r hr).1, fun j h1 h2 => ⟨((h.seen r hr).2 j h1 h2).1, mv _ ((h.seen r hr).2 j h1 h2).2⟩⟩, fun hs r hr => h.only hs r (List.mem_append_left _ hr)⟩
/-- a pair that is alike is taken off, its kids are put on, and it has been seen -/
theorem SmInv.step {α : Type} {hs : α → α → Prop} {kids : α → List α} {p q : PairL α} {S D : List (PairL α)} (h : SmInv hs kids p (S ++ [q]) D) (hl : q.la.length = q.lb.length) (hh : ∀ j (h : j < q.la.length) (h' : j < q.lb.length), hs q.la[j] q.lb[j]) : SmInv hs kids p (S ++ (q.la.zip q.lb).map fun x => ⟨kids x.1, kids x.2⟩) (q :: D) := by
  have kid : ∀ j (h1 : j < q.la.length) (h2 : j < q.lb.length), (⟨kids q.la[j], kids q.lb[j]⟩ : PairL α) ∈ S ++ (q.la.zip q.lb).map fun x => (⟨kids x.1, kids x.2⟩ : PairL α) := fun j h1 h2 => by
    refine List.mem_append_right _ (List.mem_map.2 ⟨(q.la[j], q.lb[j]), ?_, rfl⟩)
    rw [← List.getElem_zip (l := q.la) (l' := q.lb) (i := j) (h := by simp; omega)]
    exact List.getElem_mem _
  have mv : ∀ r : PairL α, (r ∈ S ++ [q] ∨ r ∈ D ∨ r.la = [] ∧ r.lb = []) → (r ∈ S ++ (q.la.zip q.lb).map fun x => (⟨kids x.1, kids x.2⟩ : PairL α)) ∨ r ∈ q :: D ∨ r.la = [] ∧ r.lb = [] := fun r hr => by
    rcases hr with k | k | k
    · rcases List.mem_append.1 k with k | k
      · exact .inl (List.mem_append_left _ k)
      · obtain rfl := List.mem_singleton.1 k
        exact .inr (.inl (List.mem_cons_self ..))
    · exact .inr (.inl (List.mem_cons_of_mem _ k))
    · exact .inr (.inr k)
  refine ⟨mv p h.root, fun r hr => ?_, fun hs' r hr => ?_⟩
  · rcases List.mem_cons.1 hr with rfl | hr
    · exact ⟨hl, fun j h1 h2 => ⟨hh j h1 h2, .inl (kid j h1 h2)⟩⟩
    · exact ⟨(h.seen r hr).1, fun j h1 h2 => ⟨((h.seen r hr).2 j h1 h2).1, mv ⟨_, _⟩ ((h.seen r hr).2 j h1 h2).2⟩⟩
  · rcases List.mem_append.1 hr with hr | hr
    · exact h.only hs' r (List.mem_append_left _ hr)
    · obtain ⟨⟨a, b⟩, hab, rfl⟩ := List.mem_map.1 hr
      have hq := h.only hs' q (List.mem_append_right _ (List.mem_singleton.2 rfl))
      obtain ⟨j, hj, e⟩ := List.getElem_of_mem hab
      have hj1 : j < q.la.length := by rw [List.length_zip] at hj; omega
      have hj2 : j < q.lb.length := by rw [List.length_zip] at hj; omega
      rw [List.getElem_zip] at e
      have h3 := hq.2 j hj1 hj2
      rw [Prod.mk.injEq] at e
      rw [e.1, e.2] at h3
      exact (sameT_iff.1 h3).2
/-- a pair whose lists are of two lengths, or hold two that are not alike, refuses all -/
theorem SmInv.no {α : Type} {hs : α → α → Prop} {kids : α → List α} {p q : PairL α} {S D : List (PairL α)} (h : SmInv hs kids p (S ++ [q]) D) (hn : ¬ (q.la.length = q.lb.length ∧ ∀ j (h : j < q.la.length) (h' : j < q.lb.length), hs q.la[j] q.lb[j])) : ¬ SameL hs kids p.la p.lb := fun hs' => by
  have hq := h.only hs' q (List.mem_append_right _ (List.mem_singleton.2 rfl))
  exact hn ⟨hq.1, fun j h1 h2 => (sameT_iff.1 (hq.2 j h1 h2)).1⟩

end Go.Proofs.Ytegdladpkikicaa

/-
  A maker with one form more, or one list more.
-/
import Derived.Test.YtbojmbeopnlmiaaGreatDoorMkK
namespace Go.Proofs.YtbojmbeopnlmiaaGreatDoor
open Go.RowKit

theorem kids_nums {F : List FRec} (hu : ∀ (i j : Nat) (r q : FRec), F[i]? = some r → F[j]? = some q → r.ty = q.ty → i = j) {ks js : List Nat} {ts : List Ty} (ha : KidsOf F ks ts) (hb : KidsOf F js ts) : ks = js := by
  refine List.ext_getElem (by rw [ha.1, hb.1]) fun j h1 h2 => ?_
  obtain ⟨r, q1, q2⟩ := ha.2 j h1
  obtain ⟨r', q3, q4⟩ := hb.2 j h2
  rw [q2, Option.some.injEq] at q4
  exact hu _ _ r r' q1 q3 q4

theorem pcV_app {F G : List FRec} {o : Option Nat} (h : ∀ k, o = some k → k < F.length) : pcV (F ++ G) o = pcV F o := by
  cases o with
  | none => rfl
  | some k => exact valAt_app (h k rfl)
theorem PRow.app {A : Nat → Prop} {w : World} {F G : List FRec} {v : Value} {ps : List Pc} (h : PRow A w F v ps) (hp : ∀ p ∈ ps, ∀ k, p.f = some k → k < F.length) : PRow A w (F ++ G) v ps := by
  obtain ⟨b, cap, e, ha, hc⟩ := h
  refine ⟨b, cap, e, ha, fun j hj => ⟨(hc j hj).1, ?_⟩⟩
  rw [(hc j hj).2, pcV_app (hp _ (List.getElem_mem hj))]

theorem fn_kids {t : Ty} (h : Ty.ok t) (h6 : t.kind = 6) : t.kids ≠ [] := (right_fn h h6).2.2
theorem KidsOf.ne {F : List FRec} {ks : List Nat} {ts : List Ty} (h : KidsOf F ks ts) (hn : ts ≠ []) : ks ≠ [] := by
  intro e
  have := h.1
  rw [e] at this
  exact hn (List.length_eq_zero_iff.1 this.symm)

theorem FormOk.app {C : MkC} {w w' : World} {M : Mk} {k : Nat} {r : FRec} (h : FormOk C w M k r) (G : List FRec) (L : List LRec) (T : List (Nat × List Value)) (hs : SameOn M.ext w w') (hb : w'.heap[r.blk]? = w.heap[r.blk]?) (E : Nat → Prop) (hE : ∀ b, M.ext b → E b) : FormOk C w' ⟨M.F ++ G, L, T, E⟩ k r := by
  obtain ⟨vp, sz, h1, h2, h3⟩ := (h.same hs hb).obj
  refine ⟨h.ok, h.base, h.kids.app, h.less, ?_, fun q => ((h.names q).same hs).sub hE, vp, sz, h1, h2.imp id fun q => ?_, h3⟩
  · show VRow E w' r.vk (r.kids.map (valAt (M.F ++ G)))
    rw [h.kids.vals]
    exact (h.row.same hs).sub hE
  · refine PRow.sub (PRow.app q fun p hp k hk => h.kids.lt k (pcsOf_mem (fun c => h.kids.ne (fn_kids h.ok c)) hp k hk)) hE

theorem ListOk.app {w w' : World} {M : Mk} {r : LRec} (h : ListOk w M r) (G : List FRec) (L : List LRec) (T : List (Nat × List Value)) (hs : SameOn M.ext w w') (E : Nat → Prop) (hE : ∀ b, M.ext b → E b) : ListOk w' ⟨M.F ++ G, L, T, E⟩ r := by
  obtain ⟨h1, ⟨cap, h2⟩, h3, h4⟩ := h.same hs
  refine ⟨h1, ⟨cap, h2.sub hE fun cs t _ q => q.sub hE⟩, h3.app, ?_⟩
  show VRow E w' r.v (r.ks.map (valAt (M.F ++ G)))
  rw [h3.vals]
  exact h4.sub hE

/-- one form more -/
theorem MkAt.push {C : MkC} {w w' : World} {M : Mk} (h : MkAt C w M) {A : Nat → Prop} (hA : ExtOk C w A) (r : FRec) (hok : Ty.ok r.ty) (hblk : w.heap.size ≤ r.blk) (hk : KidsOf M.F r.kids r.ty.kids) (hrow : VRow A w r.vk (r.kids.map (valAt M.F))) (hn : r.ty.kind = 5 → TextsR A w r.vn r.ty.names)
    (hno : ∀ (i : Nat) (q : FRec), M.F[i]? = some q → q.key ≠ r.key) (hobj : w'.heap[r.blk]? = some (.cells (r.cells M.F.length (.slice none 0 0) 0) (stT r.ty.kind) (0, 0))) (hmap : SMap w' C.fb ((M.F.map fun r => (r.key, r.val)) ++ [(r.key, r.val)])) (hold : ∀ b, b < w.heap.size → b ≠ C.fb → w'.heap[b]? = w.heap[b]?) (hz : w.heap.size ≤ w'.heap.size) (hsm : r.ty.txt.size ≤ 1099511627776 ∧ r.kids.length ≤ 1048577) :
    MkAt C w' ⟨M.F ++ [r], M.L, M.T, fun b => M.ext b ∨ A b⟩ := by
  have hlt : ∀ {b : Nat} {o : Obj}, w.heap[b]? = some o → b < w.heap.size := fun e => (Array.getElem?_eq_some_iff.1 e).1
  obtain ⟨es0, c0, hf0, _⟩ := h.forms
  have hcl : ∀ {b : Nat} {c : Array Value} {T : TypeId} {fz : Nat × Nat}, w.heap[b]? = some (.cells c T fz) → w'.heap[b]? = w.heap[b]? := fun {b c T fz} e => hold b (hlt e) fun e2 => by rw [e2, hf0] at e; simp at e
  have hext : ∀ b, M.ext b ∨ A b → b < w.heap.size ∧ w'.heap[b]? = w.heap[b]? ∧ (b < C.B ∨ ∃ c T, w.heap[b]? = some (.cells c T (0, 0)) ∧ extT T) := fun b hb => by
    obtain ⟨q1, q2⟩ : b < w.heap.size ∧ (b < C.B ∨ ∃ c T, w.heap[b]? = some (.cells c T (0, 0)) ∧ extT T) := hb.elim (h.extok b) (hA b)
    refine ⟨q1, ?_, q2⟩
    rcases q2 with q2 | ⟨c, T, e, _⟩
    · exact hold b q1 fun e => by have := h.geo.1; omega
    · exact hcl e
  have hS : SameOn M.ext w w' := fun b hb => (hext b (.inl hb)).2.1
  have hSA : SameOn A w w' := fun b hb => (hext b (.inr hb)).2.1
  have hnew : ∀ {i : Nat} {q : FRec}, (M.F ++ [r])[i]? = some q → (i < M.F.length ∧ M.F[i]? = some q) ∨ (i = M.F.length ∧ q = r) := fun {i q} e => by
    by_cases c : i < M.F.length
    · rw [List.getElem?_append_left c] at e
      exact .inl ⟨c, e⟩
    · rw [List.getElem?_append_right (by omega)] at e
      have : i - M.F.length = 0 := by
        have := (List.getElem?_eq_some_iff.1 e).1
        simp at this
        omega
      rw [this] at e
      simp only [List.getElem?_cons_zero, Option.some.injEq] at e
      exact .inr ⟨by omega, e.symm⟩
  have hkey : ∀ {i : Nat} {q : FRec}, M.F[i]? = some q → q.ty = r.ty → False := fun {i q} e ht => by
    have hq := h.each i q e
    refine hno i q e ?_
    have : q.kids = r.kids := kids_nums h.uniq (ht ▸ hq.kids) hk
    unfold FRec.key
    rw [ht, this]
  have hbl : ∀ {i : Nat} {q : FRec}, M.F[i]? = some q → q.blk ≠ r.blk := fun {i q} e => by
    obtain ⟨vp, sz, h1, _⟩ := (h.each i q e).obj
    have := hlt h1
    omega
  obtain ⟨vkey, nk, xs, hs1, hs2⟩ := h.self
  refine ⟨h.geo, ⟨vkey, nk, xs, (hcl hs1).trans hs1, hs2.1, ?_⟩, ?_, ?_, ?_, fun p hp => ?_, fun k q hq => ?_, fun i j q q' hq hq' ht => ?_, fun i j q q' hq hq' ht => ?_, fun q hq => (h.ls q hq).app _ _ _ hS _ fun b hb => .inl hb, fun b hb => ?_, fun k q hq => (hnew hq).elim (fun q' => h.small k q q'.2) fun q' => by rw [q'.2]; exact hsm⟩
  · rcases hs2.2 with q | ⟨g, cap, cur, hv, hg, hh, q⟩
    · exact .inl q
    · exact .inr ⟨g, cap, cur, hv, hg, (hcl hh).trans hh, q⟩
  · rw [List.map_append]
    exact hmap
  · obtain ⟨es, c, q1, q2⟩ := h.lists
    exact ⟨es, c, (hold _ (hlt q1) (fun e => h.geo.2.2.2.2.1 e.symm)).trans q1, q2⟩
  · obtain ⟨es, c, q1, q2⟩ := h.types
    exact ⟨es, c, (hold _ (hlt q1) (fun e => h.geo.2.2.2.2.2.2 e.symm)).trans q1, q2⟩
  · obtain ⟨q, q1, q2⟩ := h.tys p hp
    exact ⟨q, get_app q1, (q2.same hS).sub fun b hb => .inl hb⟩
  · rcases hnew hq with ⟨c, e⟩ | ⟨rfl, rfl⟩
    · obtain ⟨vp, sz, h1, _⟩ := (h.each k q e).obj
      exact (h.each k q e).app _ _ _ hS (hcl h1) _ fun b hb => .inl hb
    · refine ⟨hok, ?_, hk.app, hk.lt, ?_, fun c => ((hn c).same hSA).sub fun b hb => .inr hb, .slice none 0 0, 0, hobj, .inl rfl, .inl rfl⟩
      · have := h.geo.1
        have := hlt hf0
        omega
      · show VRow _ w' q.vk (q.kids.map (valAt (M.F ++ [q])))
        rw [hk.vals]
        exact (hrow.same hSA).sub fun b hb => .inr hb
  · rcases hnew hq with ⟨c, e⟩ | ⟨rfl, rfl⟩
    · rcases hnew hq' with ⟨c', e'⟩ | ⟨rfl, rfl⟩
      · exact h.uniq i j q q' e e' ht
      · exact (hkey e ht).elim
    · rcases hnew hq' with ⟨c', e'⟩ | ⟨rfl, rfl⟩
      · exact (hkey e' ht.symm).elim
      · rfl
  · rcases hnew hq with ⟨c, e⟩ | ⟨rfl, rfl⟩
    · rcases hnew hq' with ⟨c', e'⟩ | ⟨rfl, rfl⟩
      · exact h.blks i j q q' e e' ht
      · exact (hbl e ht).elim
    · rcases hnew hq' with ⟨c', e'⟩ | ⟨rfl, rfl⟩
      · exact (hbl e' ht.symm).elim
      · rfl
  · obtain ⟨q1, q2, q3⟩ := hext b hb
    exact ⟨Nat.lt_of_lt_of_le q1 hz, q3.imp id fun ⟨c, T, e, hT⟩ => ⟨c, T, q2.trans e, hT⟩⟩

/-- one list more -/
theorem MkAt.list {C : MkC} {w w' : World} {M : Mk} (h : MkAt C w M) (r : LRec) (hr : ListOk w M r) (hmap : LMapAt w' C.lb (M.L ++ [r])) (hb : But C.lb w w') : MkAt C w' { M with L := M.L ++ [r] } := by
  obtain ⟨es0, c0, hl0, _⟩ := h.lists
  have hcl : ∀ {b : Nat} {c : Array Value} {T : TypeId} {fz : Nat × Nat}, w.heap[b]? = some (.cells c T fz) → w'.heap[b]? = w.heap[b]? := fun {b c T fz} e => hb.2.2.2.2 b fun e2 => by rw [e2, hl0] at e; simp at e
  have hS : SameOn M.ext w w' := fun b hb' => by
    rcases (h.extok b hb').2 with q2 | ⟨c, T, e, _⟩
    · exact hb.2.2.2.2 b fun e => by have := h.geo.2.1; omega
    · exact hcl e
  obtain ⟨vkey, nk, xs, hs1, hs2⟩ := h.self
  refine ⟨h.geo, ⟨vkey, nk, xs, (hcl hs1).trans hs1, hs2.1, ?_⟩, ?_, hmap, ?_, fun p hp => ?_, fun k q hq => ?_, h.uniq, h.blks, fun q hq => ?_, fun b hb' => ?_, h.small⟩
  · rcases hs2.2 with q | ⟨g, cap, cur, hv, hg, hh, q⟩
    · exact .inl q
    · exact .inr ⟨g, cap, cur, hv, hg, (hcl hh).trans hh, q⟩
  · exact h.forms.same (hb.2.2.2.2 _ h.geo.2.2.2.2.1)
  · exact h.types.same (hb.2.2.2.2 _ fun e => h.geo.2.2.2.2.2.1 e.symm)
  · obtain ⟨q, q1, q2⟩ := h.tys p hp
    exact ⟨q, q1, q2.same hS⟩
  · obtain ⟨vp, sz, h1, _⟩ := (h.each k q hq).obj
    have := (h.each k q hq).app [] (M.L ++ [r]) M.T hS (hcl h1) M.ext fun b hb => hb
    rw [List.append_nil] at this
    exact this
  · have key : ∀ x, ListOk w M x → ListOk w' { M with L := M.L ++ [r] } x := fun x hx => by
      have := hx.app [] (M.L ++ [r]) M.T hS M.ext fun b hb => hb
      rw [List.append_nil] at this
      exact this
    rcases List.mem_append.1 hq with hq | hq
    · exact key q (h.ls q hq)
    · rw [List.mem_singleton] at hq
      subst hq
      exact key q hr
  · obtain ⟨q1, q2⟩ := h.extok b hb'
    exact ⟨by rw [hb.2.2.2.1]; exact q1, q2.imp id fun ⟨c, T, e, hT⟩ => ⟨c, T, (hS b hb').trans e, hT⟩⟩

end Go.Proofs.YtbojmbeopnlmiaaGreatDoor

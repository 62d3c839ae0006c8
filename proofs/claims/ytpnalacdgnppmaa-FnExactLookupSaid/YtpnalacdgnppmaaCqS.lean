/-
  A copy of types that is made list by list: what holds between two steps, and that a step keeps it. No walk here.
-/
import Derived.Test.YtpnalacdgnppmaaCqT
namespace Go.Proofs.Ytpnalacdgnppmaa
open Go.RowKit

/-- rows of types and of texts stay, but for one -/
def FrQ (T : Nat) (w w' : World) : Prop := w.heap.size ≤ w'.heap.size ∧ ∀ (x : Nat) (cur : Array Value) (e : TypeId), (e = 27 ∨ e = 9) → x ≠ T → w.heap[x]? = some (.cells cur e (0, 0)) → w'.heap[x]? = w.heap[x]?
theorem FrQ.trans {T : Nat} {a b c : World} (h : FrQ T a b) (k : FrQ T b c) : FrQ T a c := ⟨Nat.le_trans h.1 k.1, fun x cur e he hx hh => by
  have h1 := h.2 x cur e he hx hh
  exact (k.2 x cur e he hx (h1.trans hh)).trans h1⟩
theorem FrQ.below {T : Nat} {a b : World} (h : Below a.heap.size a b) : FrQ T a b := ⟨h.size, fun x _ _ _ _ hh => h.block x (Array.getElem?_eq_some_iff.1 hh).1⟩
theorem FrQ.grown {T : Nat} {a b : World} (h : a.grownBy b (some T)) : FrQ T a b := ⟨h.size, fun x _ _ _ hx hh => h.block x (Array.getElem?_eq_some_iff.1 hh).1 fun e => hx (Option.some.inj e)⟩
/-- the stack grows -/
theorem FrQ.stack {T : Nat} {a b : World} {o : Obj} {v : Value} {n : Nat} {xs : List Value} {B : Nat} (hr : a.ownsRow B 25 1 v n xs) (h : (a.alloc o).grownBy b v.ownBlock) : FrQ T a b := by
  refine ⟨Nat.le_trans (by simp) h.size, fun x cur e he _ hh => ?_⟩
  have hl := (Array.getElem?_eq_some_iff.1 hh).1
  refine (h.block x (by simp; omega) fun q => ?_).trans ((MapKept.heap_alloc a o).2 x hl)
  obtain ⟨_, c, hc⟩ := own_rowW hr q.symm
  rw [hh] at hc
  simp only [Option.some.injEq, Obj.cells.injEq] at hc
  rcases he with he | he
  · rw [he] at hc; exact absurd hc.2.1 (by decide)
  · rw [he] at hc; exact absurd hc.2.1 (by decide)
theorem FrQ.owns {T : Nat} {w w' : World} {B e z n : Nat} {v : Value} {xs : List Value} (h : w.ownsRow B e z v n xs) (fr : FrQ T w w') (he : e = 27 ∨ e = 9) (hT : v.ownBlock ≠ some T) : w'.ownsRow B e z v n xs :=
  own_atW h fun g hg => by
    obtain ⟨_, c, hc⟩ := own_rowW h hg
    exact fr.2 g c e he (fun q => hT (by rw [hg, q])) hc
theorem FrQ.ownS {T : Nat} {w w' : World} {n : Nat} {v : Value} {xs : List Value} (h : OwnS w 9 1 v n xs) (fr : FrQ T w w') (hT : ∃ cur, w.heap[T]? = some (.cells cur 27 (0, 0))) : OwnS w' 9 1 v n xs := by
  rcases h with h | ⟨h0, h⟩
  · exact .inl h
  · refine .inr ⟨h0, fr.owns h (.inr rfl) fun q => ?_⟩
    obtain ⟨_, c, hc⟩ := own_rowW h q
    obtain ⟨cur, hT⟩ := hT
    rw [hT] at hc
    simp only [Option.some.injEq, Obj.cells.injEq] at hc
    exact absurd hc.2.1 (by decide)

/-- a type of a list that is not done yet: as it lies in the source -/
def RawQ (A : Nat → Prop) (W0 : World) (n : Nat) (t : Ty) (vn vk : Value) : Prop := ∃ m, n = m + 1 ∧ Ty.bulk n t ≤ 1048576 ∧ TextsR A W0 vn t.names ∧ LE.fits A W0 ⟨vk, t.kids, m⟩
/-- a list of the copy, its first ones done -/
def RowQ (A : Nat → Prop) (W0 w : World) (rs : List Cq) (ids : Cids) (r : Cq) (i : Nat) (X : List Value) : Prop := w.ownsRow 0 27 4 r.val r.ts.length X ∧ ∀ j (h : j < r.ts.length), ∃ vn vk, Four4 X j (.int .i64 r.ts[j].kind) (.string r.ts[j].name) vn vk ∧ (j < i → CqE w rs ids r j r.ts[j] vn vk) ∧ (i ≤ j → RawQ A W0 r.n r.ts[j] vn vk)
theorem CqE.keep {T : Nat} {w w' : World} {rs rs' : List Cq} {ids ids' : Cids} {r : Cq} {i : Nat} {t : Ty} {vn vk : Value} (h : CqE w rs ids r i t vn vk) (fr : FrQ T w w') (hrs : ∀ q ∈ rs, q ∈ rs') (hid : ∀ e ∈ ids, e ∈ ids') (hT : ∃ cur, w.heap[T]? = some (.cells cur 27 (0, 0))) : CqE w' rs' ids' r i t vn vk :=
  ⟨fr.ownS h.names hT, fun x hx => hid _ (h.nid x hx), h.kids.imp id fun ⟨r', h1, h2⟩ => ⟨r', hrs _ h1, h2⟩⟩
theorem RowQ.keep {A : Nat → Prop} {T : Nat} {W0 w w' : World} {rs rs' : List Cq} {ids ids' : Cids} {r : Cq} {i : Nat} {X : List Value} (h : RowQ A W0 w rs ids r i X) (fr : FrQ T w w') (hrs : ∀ q ∈ rs, q ∈ rs') (hid : ∀ e ∈ ids, e ∈ ids') (hT : ∃ cur, w.heap[T]? = some (.cells cur 27 (0, 0))) (hne : r.tb ≠ T) : RowQ A W0 w' rs' ids' r i X := by
  refine ⟨fr.owns h.1 (.inl rfl) (fun q => hne ?_), fun j hj => ?_⟩
  · exact Option.some.inj q
  · obtain ⟨vn, vk, h1, h2, h3⟩ := h.2 j hj
    exact ⟨vn, vk, h1, fun q => (h2 q).keep fr hrs hid hT, h3⟩

/-- what holds between two steps: lists that are done, the one that is being done, lists that wait -/
structure CqI (A : Nat → Prop) (W0 w : World) (dn cu pd : List Cq) (i : Nat) (ids : Cids) : Prop where
  done : ∀ r ∈ dn, ∃ X, RowQ A W0 w (dn ++ cu ++ pd) ids r r.ts.length X
  cur : ∀ r ∈ cu, ∃ X, RowQ A W0 w (dn ++ cu ++ pd) ids r i X
  pend : ∀ r ∈ pd, ∃ X, RowQ A W0 w (dn ++ cu ++ pd) ids r 0 X
  met : ∀ r ∈ dn ++ cu ++ pd, CqM ids r ∧ 0 < r.ts.length
  ndr : ((dn ++ cu ++ pd).map Cq.tb).Nodup
  nd : (ids.map (·.2)).Nodup
  idr : ∀ e ∈ ids, W0.heap.size ≤ e.2 ∧ e.2 < w.heap.size
  bel : Below W0.heap.size W0 w

theorem RowQ.done {A : Nat → Prop} {W0 w : World} {rs : List Cq} {ids : Cids} {r : Cq} {X : List Value} (h : RowQ A W0 w rs ids r r.ts.length X) : CqR w rs ids r := ⟨X, h.1, fun j hj => by
  obtain ⟨vn, vk, h1, h2, _⟩ := h.2 j hj
  exact ⟨vn, vk, h1, h2 hj⟩⟩
/-- at the end -/
theorem CqI.all {A : Nat → Prop} {W0 w : World} {dn : List Cq} {i : Nat} {ids : Cids} (h : CqI A W0 w dn [] [] i ids) {r : Cq} (hr : r ∈ dn) : ∃ ls, RowL w r.n r.val ls r.ts ∧ ∀ i (h : i < ls.length), (Lay.blocks r.n ls[i]).Nodup ∧ ∀ x ∈ Lay.blocks r.n ls[i], W0.heap.size ≤ x := by
  have e : dn ++ [] ++ [] = dn := by simp
  have hm := h.met
  have hd := h.done
  rw [e] at hm hd
  obtain ⟨ls, h1, h2⟩ := cq_lay (fun q hq => by obtain ⟨X, hX⟩ := hd q hq; exact hX.done) (fun q hq => (hm q hq).1) h.nd r.n r hr rfl
  refine ⟨ls, h1, fun i hi => ⟨(h2 i hi).1, fun x hx => ?_⟩⟩
  obtain ⟨q, b, hq⟩ := (h2 i hi).2 x hx
  exact (h.idr _ hq).1
/-- a list is begun -/
theorem CqI.enter {A : Nat → Prop} {W0 w : World} {dn pd : List Cq} {r : Cq} {i : Nat} {ids : Cids} (h : CqI A W0 w dn [] (pd ++ [r]) i ids) : CqI A W0 w dn [r] pd 0 ids := by
  have hp : (dn ++ [] ++ (pd ++ [r])).Perm (dn ++ [r] ++ pd) := by
    rw [List.append_nil, List.append_assoc]
    exact List.Perm.append_left _ List.perm_append_comm
  have hin : ∀ q, q ∈ dn ++ [] ++ (pd ++ [r]) ↔ q ∈ dn ++ [r] ++ pd := fun q => hp.mem_iff
  have mv : ∀ {q : Cq} {k : Nat} {X : List Value}, RowQ A W0 w (dn ++ [] ++ (pd ++ [r])) ids q k X → RowQ A W0 w (dn ++ [r] ++ pd) ids q k X := fun {q k X} hX => ⟨hX.1, fun j hj => by
    obtain ⟨vn, vk, h1, h2, h3⟩ := hX.2 j hj
    exact ⟨vn, vk, h1, fun q => ⟨(h2 q).names, (h2 q).nid, (h2 q).kids.imp id fun ⟨r', q1, q2⟩ => ⟨r', (hin r').1 q1, q2⟩⟩, h3⟩⟩
  refine ⟨fun q hq => ?_, fun q hq => ?_, fun q hq => ?_, fun q hq => h.met q ((hin q).2 hq), (hp.map _).nodup_iff.1 h.ndr, h.nd, h.idr, h.bel⟩
  · obtain ⟨X, hX⟩ := h.done q hq
    exact ⟨X, mv hX⟩
  · rw [List.mem_singleton] at hq
    obtain ⟨X, hX⟩ := h.pend r (by simp)
    rw [hq]
    exact ⟨X, mv hX⟩
  · obtain ⟨X, hX⟩ := h.pend q (List.mem_append_left _ hq)
    exact ⟨X, mv hX⟩
/-- a list is left -/
theorem CqI.leave {A : Nat → Prop} {W0 w : World} {dn pd : List Cq} {r : Cq} {ids : Cids} (h : CqI A W0 w dn [r] pd r.ts.length ids) : CqI A W0 w (dn ++ [r]) [] pd 0 ids := by
  have e : dn ++ [r] ++ [] ++ pd = dn ++ [r] ++ pd := by simp
  refine ⟨fun q hq => ?_, fun q hq => by simp at hq, fun q hq => ?_, ?_, ?_, h.nd, h.idr, h.bel⟩
  · rw [e]
    rcases List.mem_append.1 hq with hq | hq
    · exact h.done q hq
    · rw [List.mem_singleton] at hq
      rw [hq]
      exact h.cur r (by simp)
  · rw [e]; exact h.pend q hq
  · rw [e]; exact h.met
  · rw [e]; exact h.ndr

end Go.Proofs.Ytpnalacdgnppmaa

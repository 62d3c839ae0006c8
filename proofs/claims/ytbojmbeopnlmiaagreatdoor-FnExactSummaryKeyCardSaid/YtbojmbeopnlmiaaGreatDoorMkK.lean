/-
 A maker's key: what turns while it is written, and that all else of the maker stands.
-/
import Derived.Test.YtbojmbeopnlmiaaGreatDoorMkL
import Derived.Lib.AppendIntMem
import Derived.Shelf.Strings.Builder1
import Derived.Shelf.Strings.Builder2
import Derived.Shelf.Small.Strs
import Derived.Shelf.Small.Wraps
import Derived.Shelf.Strings.BuilderF
import Derived.Shelf.Strings.BuilderK
import Derived.Shelf.Strings.Builder2Cap
import Derived.Shelf.Strconv.Itoa0
import Derived.Shelf.Strconv.Itoa1
import Derived.Shelf.LaysM
import Derived.Shelf.Strconv.Itoa2
import Derived.Shelf.Strconv.Clone
import Derived.Shelf.Strings.Search1
import Derived.Shelf.Strings.Search2
import Derived.Shelf.Strings.Search3
import Derived.Shelf.Sort.Plain
import Derived.Shelf.Strconv.AppendUint10
import Derived.Shelf.Strconv.AppendInt10
import Derived.Shelf.Strconv.AppendIntPublic10
import Derived.Shelf.Strings.Prefix
import Derived.Shelf.Bits.Mul64
import Derived.Shelf.Strings.Repeat
import Derived.Shelf.Strings.BuilderCap
import Derived.Shelf.Slices.Equal
import Derived.Shelf.Slices.CompactS
import Derived.Shelf.Slices.Cells
import Derived.Shelf.Slices.In.SortNone
import Derived.Shelf.Slices.Empties2
import Derived.Test.YtbojmbeopnlmiaaGreatDoorProg
namespace Go.Proofs.YtbojmbeopnlmiaaGreatDoor
open Go.RowKit
structure ByteF (C : MkC) (w w2 : World) : Prop where
 below : Below C.B w w2
 others : Lib.OthersKept 5 none w w2
theorem ByteF.refl (C : MkC) (w : World) : ByteF C w w := ⟨Below.refl _ _, Lib.OthersKept.refl _ _ _⟩
theorem ByteF.trans {C : MkC} {a b c : World} (h : ByteF C a b) (k : ByteF C b c) : ByteF C a c := ⟨h.below.trans k.below, h.others.trans k.others⟩
theorem ByteF.alloc {C : MkC} {a w : World} (h : ByteF C a w) (hB : C.B ≤ w.heap.size) (o : Obj) : ByteF C a (w.alloc o) := ⟨h.below.alloc hB o, h.others.alloc o⟩
theorem ByteF.drew {C : MkC} {a w : World} (h : ByteF C a w) : ByteF C a w.drew := ⟨h.below.drew, h.others.drew⟩
theorem ByteF.grown {C : MkC} {a w w' : World} {v : Value} {n : Nat} {xs : List Value} (h : ByteF C a w) (hB : C.B ≤ w.heap.size) (ho : w.ownsRow C.B 5 1 v n xs) (hg : w.grownBy w' v.ownBlock) : ByteF C a w' := by
 refine ⟨h.below.grown hg hB fun k hk => (ho.lt k hk).1, h.others.grown hg fun g hg' => ?_⟩
 rcases ho.2 with ⟨rfl, _⟩ | ⟨g', cap, cur, rfl, _, hh, _⟩
 ·simp [Value.ownBlock] at hg'
 ·simp only [Value.ownBlock, Option.some.injEq] at hg'
  subst hg'
  exact ⟨_, _, hh⟩
theorem ByteF.cells {C : MkC} {w w2 : World} (h : ByteF C w w2) {b : Nat} {c : Array Value} {T : TypeId} {fz : Nat × Nat} (hb : w.heap[b]? = some (.cells c T fz)) (hT : T ≠ 5) : w2.heap[b]? = some (.cells c T fz) :=
 h.others b _ hb (by simp) fun c' fz' e => by simp only [Obj.cells.injEq] at e; exact hT e.2.1
theorem ByteF.map {C : MkC} {w w2 : World} (h : ByteF C w w2) {b : Nat} {es : Array MapEntry} {clk : Nat} (hb : w.heap[b]? = some (.map es clk)) : w2.heap[b]? = some (.map es clk) :=
 h.others b _ hb (by simp) fun c' fz' e => by simp at e
theorem ByteF.mkf {C : MkC} {w w2 : World} (h : ByteF C w w2) : MkF C w w2 := by
 refine ⟨h.below.os, h.below.tape, h.below.output, h.below.size, fun b hb hm => ?_⟩
 by_cases c : b < C.B
 ·exact h.below.block b c
 ·obtain ⟨o, ho⟩ : ∃ o, w.heap[b]? = some o := ⟨_, Array.getElem?_eq_getElem hb⟩
  rw [ho]
  refine h.others b o ho (by simp) fun c' fz' e => hm ⟨by omega, .inr ⟨c', _, fz', ?_, .inl rfl⟩⟩
  rw [ho, e]
theorem st_ne (k : Int) : stT k ≠ 5 ∧ stT k ≠ 92 := by
 unfold stT
 repeat' split
 all_goals decide
theorem MkAt.rekey {C : MkC} {w w2 : World} {M : Mk} {v' : Value} {n : Nat} {xs : List Value} (h : MkAt C w M) (hb : ByteF C w w2) (ho : w2.ownsRow C.B 5 1 v' n xs) :
  MkAt C (w2.setCell ⟨C.mb, 0, none⟩ v') M ∧ (w2.setCell ⟨C.mb, 0, none⟩ v').heap[C.mb]? = some (.cells #[v', .map (some C.fb), .map (some C.lb), .map (some C.tb)] 92 (0, 0)) ∧ (w2.setCell ⟨C.mb, 0, none⟩ v').ownsRow C.B 5 1 v' n xs ∧ MkF C w (w2.setCell ⟨C.mb, 0, none⟩ v') := by
 obtain ⟨vkey, nk, ys, hs, _⟩ := h.self
 have hs2 := hb.cells hs (by decide)
 have hs3 : (w2.setCell ⟨C.mb, 0, none⟩ v').heap[C.mb]? = some (.cells #[v', .map (some C.fb), .map (some C.lb), .map (some C.tb)] 92 (0, 0)) := heap_setCell_same w2 C.mb 0 _ _ v' hs2
 have hne : ∀ b, b ≠ C.mb → (w2.setCell ⟨C.mb, 0, none⟩ v').heap[b]? = w2.heap[b]? := fun b hb' => Below.heap_setCell _ _ _ _ hb'
 have ho3 : (w2.setCell ⟨C.mb, 0, none⟩ v').ownsRow C.B 5 1 v' n xs := by
  refine ⟨ho.1, ?_⟩
  rcases ho.2 with q | ⟨g, cap, cur, hv, hg, hh, q⟩
  ·exact .inl q
  ·refine .inr ⟨g, cap, cur, hv, hg, ?_, q⟩
   rw [hne g fun e => by rw [e, hs2] at hh; simp only [Option.some.injEq, Obj.cells.injEq] at hh; exact absurd hh.2.1 (by decide)]
   exact hh
 have hF : MkF C w (w2.setCell ⟨C.mb, 0, none⟩ v') := by
  refine hb.mkf.trans ⟨rfl, rfl, rfl, by simp, fun b _ hm => hne b fun e => hm ?_⟩
  subst e
  exact ⟨h.geo.2.2.2.1, .inr ⟨_, _, _, hs2, .inr (.inl rfl)⟩⟩
 have hS : SameOn M.ext w (w2.setCell ⟨C.mb, 0, none⟩ v') := ExtOk.sameF (A := M.ext) h.extok hF
 have hM : ∀ (b : Nat) (es : Array MapEntry) (clk : Nat), w.heap[b]? = some (.map es clk) → (w2.setCell ⟨C.mb, 0, none⟩ v').heap[b]? = w.heap[b]? := fun b es clk hm => by
  rw [hne b fun e => by rw [e, hs] at hm; simp at hm, hb.map hm, hm]
 refine ⟨⟨h.geo, ⟨v', n, xs, hs3, ho3⟩, ?_, ?_, ?_, fun p hp => ?_, fun k r hr => ?_, h.uniq, h.blks, fun r hr => (h.ls r hr).same hS, ExtOk.step (A := M.ext) h.extok hF, h.small⟩, hs3, ho3, hF⟩
 ·obtain ⟨es, c, q1, q2⟩ := h.forms
  exact ⟨es, c, (hM _ _ _ q1).trans q1, q2⟩
 ·obtain ⟨es, c, q1, q2⟩ := h.lists
  exact ⟨es, c, (hM _ _ _ q1).trans q1, q2⟩
 ·obtain ⟨es, c, q1, q2⟩ := h.types
  exact ⟨es, c, (hM _ _ _ q1).trans q1, q2⟩
 ·obtain ⟨r, q1, q2⟩ := h.tys p hp
  exact ⟨r, q1, q2.same hS⟩
 ·refine (h.each k r hr).same hS ?_
  obtain ⟨vp, sz, q1, _⟩ := (h.each k r hr).obj
  rw [hne r.blk fun e => by rw [e, hs] at q1; simp only [Option.some.injEq, Obj.cells.injEq] at q1; exact (st_ne _).2 q1.2.1.symm, hb.cells q1 (st_ne _).1, q1]
def KeyIs (C : MkC) (w : World) (M : Mk) (l : List UInt8) : Prop := MkAt C w M ∧ ∃ vkey, w.heap[C.mb]? = some (.cells #[vkey, .map (some C.fb), .map (some C.lb), .map (some C.tb)] 92 (0, 0)) ∧ w.ownsRow C.B 5 1 vkey l.length (Lib.byteCells l)
theorem block4M {W : World} {b : Nat} {x0 x1 x2 x3 : Value} (h : W.heap[b]? = some (.cells #[x0, x1, x2, x3] 92 (0, 0))) : (W.cell? ⟨b, 0, none⟩ = some x0 ∧ W.cell? ⟨b, 1, none⟩ = some x1 ∧ W.cell? ⟨b, 2, none⟩ = some x2 ∧ W.cell? ⟨b, 3, none⟩ = some x3) ∧ ∀ j, W.frozen? ⟨b, j, none⟩ = false := by
 refine ⟨⟨?_, ?_, ?_, ?_⟩, fun j => frozen_of_row W b j _ _ h⟩
 ·rw [cell_of_row W b 0 _ _ (0, 0) h]; rfl
 ·rw [cell_of_row W b 1 _ _ (0, 0) h]; rfl
 ·rw [cell_of_row W b 2 _ _ (0, 0) h]; rfl
 ·rw [cell_of_row W b 3 _ _ (0, 0) h]; rfl
theorem slice_own1 {w : World} {B e : Nat} {v : Value} {n : Nat} {xs : List Value} (h : w.ownsRow B e 1 v n xs) : ∃ a cap, v = .slice a n cap := by
 rcases h.2 with ⟨rfl, h0⟩ | ⟨g, cap, cur, hv, _⟩
 ·exact ⟨none, 0, by rw [h0]⟩
 ·exact ⟨_, cap, hv⟩
theorem owns_none {w : World} {B e : Nat} {a : Option Addr} {n cap : Nat} {xs : List Value} (h : w.ownsRow B e 1 (.slice a n cap) n xs) : w.ownsRow B e 1 (.slice a 0 cap) 0 [] := by
 refine ⟨by simp, ?_⟩
 rcases h.2 with ⟨q, q0⟩ | ⟨g, c, cur, hv, hg, hh, h1, h2, h3, h4⟩
 ·simp only [Value.slice.injEq] at q
  exact .inl ⟨by rw [q.1, q.2.2], rfl⟩
 ·simp only [Value.slice.injEq] at hv
  exact .inr ⟨g, c, cur, by rw [hv.1, hv.2.2], hg, hh, Nat.zero_le _, h2, h3, by simp⟩
theorem kids_nums {F : List FRec} (hu : ∀ (i j : Nat) (r q : FRec), F[i]? = some r → F[j]? = some q → r.ty = q.ty → i = j) {ks js : List Nat} {ts : List Ty} (ha : KidsOf F ks ts) (hb : KidsOf F js ts) : ks = js := by
 refine List.ext_getElem (by rw [ha.1, hb.1]) fun j h1 h2 => ?_
 obtain ⟨r, q1, q2⟩ := ha.2 j h1
 obtain ⟨r', q3, q4⟩ := hb.2 j h2
 rw [q2, Option.some.injEq] at q4
 exact hu _ _ r r' q1 q3 q4
theorem pcV_app {F G : List FRec} {o : Option Nat} (h : ∀ k, o = some k → k < F.length) : pcV (F ++ G) o = pcV F o := by
 cases o with
 | none => rfl
 | some k => exact valAt_app (h k rfl)
theorem PRow.app {A : Nat → Prop} {w : World} {F G : List FRec} {v : Value} {ps : List Pc} (h : PRow A w F v ps) (hp : ∀ p ∈ ps, ∀ k, p.f = some k → k < F.length) : PRow A w (F ++ G) v ps := by
 obtain ⟨b, cap, e, ha, hc⟩ := h
 refine ⟨b, cap, e, ha, fun j hj => ⟨(hc j hj).1, ?_⟩⟩
 rw [(hc j hj).2, pcV_app (hp _ (List.getElem_mem hj))]
theorem fn_kids {t : Ty} (h : Ty.ok t) (h6 : t.kind = 6) : t.kids ≠ [] := (right_fn h h6).2.2
theorem KidsOf.ne {F : List FRec} {ks : List Nat} {ts : List Ty} (h : KidsOf F ks ts) (hn : ts ≠ []) : ks ≠ [] := by
 intro e
 have := h.1
 rw [e] at this
 exact hn (List.length_eq_zero_iff.1 this.symm)
theorem FormOk.app {C : MkC} {w w' : World} {M : Mk} {k : Nat} {r : FRec} (h : FormOk C w M k r) (G : List FRec) (L : List LRec) (T : List (Nat × List Value)) (hs : SameOn M.ext w w') (hb : w'.heap[r.blk]? = w.heap[r.blk]?) (E : Nat → Prop) (hE : ∀ b, M.ext b → E b) : FormOk C w' ⟨M.F ++ G, L, T, E⟩ k r := by
 obtain ⟨vp, sz, h1, h2, h3⟩ := (h.same hs hb).obj
 refine ⟨h.ok, h.base, h.kids.app, h.less, ?_, fun q => ((h.names q).same hs).sub hE, vp, sz, h1, h2.imp id fun q => ?_, h3⟩
 ·show VRow E w' r.vk (r.kids.map (valAt (M.F ++ G)))
  rw [h.kids.vals]
  exact (h.row.same hs).sub hE
 ·refine PRow.sub (PRow.app q fun p hp k hk => h.kids.lt k (pcsOf_mem (fun c => h.kids.ne (fn_kids h.ok c)) hp k hk)) hE
theorem ListOk.app {w w' : World} {M : Mk} {r : LRec} (h : ListOk w M r) (G : List FRec) (L : List LRec) (T : List (Nat × List Value)) (hs : SameOn M.ext w w') (E : Nat → Prop) (hE : ∀ b, M.ext b → E b) : ListOk w' ⟨M.F ++ G, L, T, E⟩ r := by
 obtain ⟨h1, ⟨cap, h2⟩, h3, h4⟩ := h.same hs
 refine ⟨h1, ⟨cap, h2.sub hE fun cs t _ q => q.sub hE⟩, h3.app, ?_⟩
 show VRow E w' r.v (r.ks.map (valAt (M.F ++ G)))
 rw [h3.vals]
 exact h4.sub hE
theorem MkAt.push {C : MkC} {w w' : World} {M : Mk} (h : MkAt C w M) {A : Nat → Prop} (hA : ExtOk C w A) (r : FRec) (hok : Ty.ok r.ty) (hblk : w.heap.size ≤ r.blk) (hk : KidsOf M.F r.kids r.ty.kids) (hrow : VRow A w r.vk (r.kids.map (valAt M.F))) (hn : r.ty.kind = 5 → TextsR A w r.vn r.ty.names)
  (hno : ∀ (i : Nat) (q : FRec), M.F[i]? = some q → q.key ≠ r.key) (hobj : w'.heap[r.blk]? = some (.cells (r.cells M.F.length (.slice none 0 0) 0) (stT r.ty.kind) (0, 0))) (hmap : SMap w' C.fb ((M.F.map fun r => (r.key, r.val)) ++ [(r.key, r.val)])) (hold : ∀ b, b < w.heap.size → b ≠ C.fb → w'.heap[b]? = w.heap[b]?) (hz : w.heap.size ≤ w'.heap.size) (hsm : r.ty.txt.size ≤ 1099511627776 ∧ r.kids.length ≤ 1048577) :
  MkAt C w' ⟨M.F ++ [r], M.L, M.T, fun b => M.ext b ∨ A b⟩ := by
 have hlt : ∀ {b : Nat} {o : Obj}, w.heap[b]? = some o → b < w.heap.size := fun e => (Array.getElem?_eq_some_iff.1 e).1
 obtain ⟨es0, c0, hf0, _⟩ := h.forms
 have hcl : ∀ {b : Nat} {c : Array Value} {T : TypeId} {fz : Nat × Nat}, w.heap[b]? = some (.cells c T fz) → w'.heap[b]? = w.heap[b]? := fun {b c T fz} e => hold b (hlt e) fun e2 => by rw [e2, hf0] at e; simp at e
 have hext : ∀ b, M.ext b ∨ A b → b < w.heap.size ∧ w'.heap[b]? = w.heap[b]? ∧ (b < C.B ∨ ∃ c T, w.heap[b]? = some (.cells c T (0, 0)) ∧ extT T) := fun b hb => by
  obtain ⟨q1, q2⟩ : b < w.heap.size ∧ (b < C.B ∨ ∃ c T, w.heap[b]? = some (.cells c T (0, 0)) ∧ extT T) := hb.elim (h.extok b) (hA b)
  refine ⟨q1, ?_, q2⟩
  rcases q2 with q2 | ⟨c, T, e, _⟩
  ·exact hold b q1 fun e => by have := h.geo.1; omega
  ·exact hcl e
 have hS : SameOn M.ext w w' := fun b hb => (hext b (.inl hb)).2.1
 have hSA : SameOn A w w' := fun b hb => (hext b (.inr hb)).2.1
 have hnew : ∀ {i : Nat} {q : FRec}, (M.F ++ [r])[i]? = some q → (i < M.F.length ∧ M.F[i]? = some q) ∨ (i = M.F.length ∧ q = r) := fun {i q} e => by
  by_cases c : i < M.F.length
  ·rw [List.getElem?_append_left c] at e
   exact .inl ⟨c, e⟩
  ·rw [List.getElem?_append_right (by omega)] at e
   have : i - M.F.length = 0 := by
    have := (List.getElem?_eq_some_iff.1 e).1
    simp at this
    omega
   rw [this] at e
   simp only [List.getElem?_cons_zero, Option.some.injEq] at e
   exact .inr ⟨by omega, e.symm⟩
 have hkey : ∀ {i : Nat} {q : FRec}, M.F[i]? = some q → q.ty = r.ty → False := fun {i q} e ht => by
  have hq := h.each i q e
  refine hno i q e ?_
  have : q.kids = r.kids := kids_nums h.uniq (ht ▸ hq.kids) hk
  unfold FRec.key
  rw [ht, this]
 have hbl : ∀ {i : Nat} {q : FRec}, M.F[i]? = some q → q.blk ≠ r.blk := fun {i q} e => by
  obtain ⟨vp, sz, h1, _⟩ := (h.each i q e).obj
  have := hlt h1
  omega
 obtain ⟨vkey, nk, xs, hs1, hs2⟩ := h.self
 refine ⟨h.geo, ⟨vkey, nk, xs, (hcl hs1).trans hs1, hs2.1, ?_⟩, ?_, ?_, ?_, fun p hp => ?_, fun k q hq => ?_, fun i j q q' hq hq' ht => ?_, fun i j q q' hq hq' ht => ?_, fun q hq => (h.ls q hq).app _ _ _ hS _ fun b hb => .inl hb, fun b hb => ?_, fun k q hq => (hnew hq).elim (fun q' => h.small k q q'.2) fun q' => by rw [q'.2]; exact hsm⟩
 ·rcases hs2.2 with q | ⟨g, cap, cur, hv, hg, hh, q⟩
  ·exact .inl q
  ·exact .inr ⟨g, cap, cur, hv, hg, (hcl hh).trans hh, q⟩
 ·rw [List.map_append]
  exact hmap
 ·obtain ⟨es, c, q1, q2⟩ := h.lists
  exact ⟨es, c, (hold _ (hlt q1) (fun e => h.geo.2.2.2.2.1 e.symm)).trans q1, q2⟩
 ·obtain ⟨es, c, q1, q2⟩ := h.types
  exact ⟨es, c, (hold _ (hlt q1) (fun e => h.geo.2.2.2.2.2.2 e.symm)).trans q1, q2⟩
 ·obtain ⟨q, q1, q2⟩ := h.tys p hp
  exact ⟨q, get_app q1, (q2.same hS).sub fun b hb => .inl hb⟩
 ·rcases hnew hq with ⟨c, e⟩ | ⟨rfl, rfl⟩
  ·obtain ⟨vp, sz, h1, _⟩ := (h.each k q e).obj
   exact (h.each k q e).app _ _ _ hS (hcl h1) _ fun b hb => .inl hb
  ·refine ⟨hok, ?_, hk.app, hk.lt, ?_, fun c => ((hn c).same hSA).sub fun b hb => .inr hb, .slice none 0 0, 0, hobj, .inl rfl, .inl rfl⟩
   ·have := h.geo.1
    have := hlt hf0
    omega
   ·show VRow _ w' q.vk (q.kids.map (valAt (M.F ++ [q])))
    rw [hk.vals]
    exact (hrow.same hSA).sub fun b hb => .inr hb
 ·rcases hnew hq with ⟨c, e⟩ | ⟨rfl, rfl⟩
  ·rcases hnew hq' with ⟨c', e'⟩ | ⟨rfl, rfl⟩
   ·exact h.uniq i j q q' e e' ht
   ·exact (hkey e ht).elim
  ·rcases hnew hq' with ⟨c', e'⟩ | ⟨rfl, rfl⟩
   ·exact (hkey e' ht.symm).elim
   ·rfl
 ·rcases hnew hq with ⟨c, e⟩ | ⟨rfl, rfl⟩
  ·rcases hnew hq' with ⟨c', e'⟩ | ⟨rfl, rfl⟩
   ·exact h.blks i j q q' e e' ht
   ·exact (hbl e ht).elim
  ·rcases hnew hq' with ⟨c', e'⟩ | ⟨rfl, rfl⟩
   ·exact (hbl e' ht.symm).elim
   ·rfl
 ·obtain ⟨q1, q2, q3⟩ := hext b hb
  exact ⟨Nat.lt_of_lt_of_le q1 hz, q3.imp id fun ⟨c, T, e, hT⟩ => ⟨c, T, q2.trans e, hT⟩⟩
theorem MkAt.list {C : MkC} {w w' : World} {M : Mk} (h : MkAt C w M) (r : LRec) (hr : ListOk w M r) (hmap : LMapAt w' C.lb (M.L ++ [r])) (hb : But C.lb w w') : MkAt C w' { M with L := M.L ++ [r] } := by
 obtain ⟨es0, c0, hl0, _⟩ := h.lists
 have hcl : ∀ {b : Nat} {c : Array Value} {T : TypeId} {fz : Nat × Nat}, w.heap[b]? = some (.cells c T fz) → w'.heap[b]? = w.heap[b]? := fun {b c T fz} e => hb.2.2.2.2 b fun e2 => by rw [e2, hl0] at e; simp at e
 have hS : SameOn M.ext w w' := fun b hb' => by
  rcases (h.extok b hb').2 with q2 | ⟨c, T, e, _⟩
  ·exact hb.2.2.2.2 b fun e => by have := h.geo.2.1; omega
  ·exact hcl e
 obtain ⟨vkey, nk, xs, hs1, hs2⟩ := h.self
 refine ⟨h.geo, ⟨vkey, nk, xs, (hcl hs1).trans hs1, hs2.1, ?_⟩, ?_, hmap, ?_, fun p hp => ?_, fun k q hq => ?_, h.uniq, h.blks, fun q hq => ?_, fun b hb' => ?_, h.small⟩
 ·rcases hs2.2 with q | ⟨g, cap, cur, hv, hg, hh, q⟩
  ·exact .inl q
  ·exact .inr ⟨g, cap, cur, hv, hg, (hcl hh).trans hh, q⟩
 ·exact h.forms.same (hb.2.2.2.2 _ h.geo.2.2.2.2.1)
 ·exact h.types.same (hb.2.2.2.2 _ fun e => h.geo.2.2.2.2.2.1 e.symm)
 ·obtain ⟨q, q1, q2⟩ := h.tys p hp
  exact ⟨q, q1, q2.same hS⟩
 ·obtain ⟨vp, sz, h1, _⟩ := (h.each k q hq).obj
  have := (h.each k q hq).app [] (M.L ++ [r]) M.T hS (hcl h1) M.ext fun b hb => hb
  rw [List.append_nil] at this
  exact this
 ·have key : ∀ x, ListOk w M x → ListOk w' { M with L := M.L ++ [r] } x := fun x hx => by
   have := hx.app [] (M.L ++ [r]) M.T hS M.ext fun b hb => hb
   rw [List.append_nil] at this
   exact this
  rcases List.mem_append.1 hq with hq | hq
  ·exact key q (h.ls q hq)
  ·rw [List.mem_singleton] at hq
   subst hq
   exact key q hr
 ·obtain ⟨q1, q2⟩ := h.extok b hb'
  exact ⟨by rw [hb.2.2.2.1]; exact q1, q2.imp id fun ⟨c, T, e, hT⟩ => ⟨c, T, (hS b hb').trans e, hT⟩⟩
end Go.Proofs.YtbojmbeopnlmiaaGreatDoor
namespace Go.Proofs
open Go.Shelf
def Tryz.laysM176_ren : Go.Shelf.Ren := ⟨fun | 176 => 123 | 249 => 142 | 288 => 157 | 283 => 109 | 284 => 110 | 285 => 111 | 286 => 112 | 129 => 134 | 317 => 133 | 318 => 135 | 319 => 136 | 320 => 137 | 337 => 149 | 338 => 150 | n => n, fun | 37 => 51 | 2 => 2 | 3 => 3 | 53 => 82 | 4 => 4 | 9 => 9 | 171 => 148 | 0 => 0 | 173 => 151 | 212 => 178 | 51 => 154 | 5 => 5 | 20 => 20 | 213 => 179 | 46 => 125 | 232 => 227 | 233 => 228 | n => n, fun | 17 => 1 | 18 => 3 | 19 => 4 | n => n⟩
theorem Tryz.laysM176 : Go.Proofs.LaysM.n176 Tryz.prog Tryz.laysM176_ren := {
 mixed := by kernel_rfl
 f129 := Tryz.func134.trans (congrArg some (by kernel_rfl))
 f176 := Tryz.func123.trans (congrArg some (by kernel_rfl))
 f249 := Tryz.func142.trans (congrArg some (by kernel_rfl))
 f283 := Tryz.func109.trans (congrArg some (by kernel_rfl))
 f284 := Tryz.func110.trans (congrArg some (by kernel_rfl))
 f285 := Tryz.func111.trans (congrArg some (by kernel_rfl))
 f286 := Tryz.func112.trans (congrArg some (by kernel_rfl))
 f288 := Tryz.func157.trans (congrArg some (by kernel_rfl))
 f317 := Tryz.func133.trans (congrArg some (by kernel_rfl))
 f318 := Tryz.func135.trans (congrArg some (by kernel_rfl))
 f319 := Tryz.func136.trans (congrArg some (by kernel_rfl))
 f320 := Tryz.func137.trans (congrArg some (by kernel_rfl))
 f337 := Tryz.func149.trans (congrArg some (by kernel_rfl))
 f338 := Tryz.func150.trans (congrArg some (by kernel_rfl))
 t0 := Tryz.underlying0
 a0 := Tryz.isAgg0
 z0 := Tryz.sizeOf0
 v0 := Tryz.zeroValue0
 t2 := Tryz.underlying2
 a2 := Tryz.isAgg2
 z2 := Tryz.sizeOf2
 v2 := Tryz.zeroValue2
 t3 := Tryz.underlying3
 a3 := Tryz.isAgg3
 z3 := Tryz.sizeOf3
 v3 := Tryz.zeroValue3
 t4 := Tryz.underlying4
 a4 := Tryz.isAgg4
 z4 := Tryz.sizeOf4
 v4 := Tryz.zeroValue4
 t5 := Tryz.underlying5
 a5 := Tryz.isAgg5
 z5 := Tryz.sizeOf5
 v5 := Tryz.zeroValue5
 t9 := Tryz.underlying9
 a9 := Tryz.isAgg9
 z9 := Tryz.sizeOf9
 v9 := Tryz.zeroValue9
 t20 := Tryz.underlying20
 a20 := Tryz.isAgg20
 z20 := Tryz.sizeOf20
 v20 := Tryz.zeroValue20
 t37 := Tryz.underlying51
 a37 := Tryz.isAgg51
 z37 := Tryz.sizeOf51
 v37 := Tryz.zeroValue51
 t46 := Tryz.underlying125
 a46 := Tryz.isAgg125
 z46 := Tryz.sizeOf125
 v46 := Tryz.zeroValue125
 t51 := Tryz.underlying154
 a51 := Tryz.isAgg154
 z51 := Tryz.sizeOf154
 v51 := Tryz.zeroValue154
 t53 := Tryz.underlying82
 a53 := Tryz.isAgg82
 z53 := Tryz.sizeOf82
 v53 := Tryz.zeroValue82
 t171 := Tryz.underlying148
 a171 := Tryz.isAgg148
 z171 := Tryz.sizeOf148
 v171 := Tryz.zeroValue148
 t173 := Tryz.underlying151
 a173 := Tryz.isAgg151
 z173 := Tryz.sizeOf151
 v173 := Tryz.zeroValue151
 t212 := Tryz.underlying178
 a212 := Tryz.isAgg178
 z212 := Tryz.sizeOf178
 v212 := Tryz.zeroValue178
 t213 := Tryz.underlying179
 a213 := Tryz.isAgg179
 z213 := Tryz.sizeOf179
 t232 := Tryz.underlying227
 a232 := Tryz.isAgg227
 z232 := Tryz.sizeOf227
 v232 := Tryz.zeroValue227
 t233 := Tryz.underlying228
 a233 := Tryz.isAgg228
 z233 := Tryz.sizeOf228
 v233 := Tryz.zeroValue228
 g17 := by kernel_rfl
 g18 := by kernel_rfl
 g19 := by kernel_rfl
 i0 := by kernel_rfl
 i2 := by kernel_rfl
 i3 := by kernel_rfl
 i4 := by kernel_rfl
 i5 := by kernel_rfl
 i9 := by kernel_rfl
 i20 := by kernel_rfl
 i37 := by kernel_rfl
 i46 := by kernel_rfl
 i51 := by kernel_rfl
 i53 := by kernel_rfl
 i171 := by kernel_rfl
 i173 := by kernel_rfl
 i212 := by kernel_rfl
 i232 := by kernel_rfl
 i233 := by kernel_rfl
 m17 := by kernel_rfl
 m18 := by kernel_rfl
 m19 := by kernel_rfl }
open Go.RowKit Go.Sort Go.Lib in
theorem Tryz.strconv_AppendInt_10 (B n : Nat) (i : Int) (h0 : -9223372036854775808 ≤ i) (h1 : i ≤ 9223372036854775807) (sv : Value) (xs : List Value) (w : World) (hown : w.ownsRow B 5 1 sv n xs) (hBw : B ≤ w.heap.size) (hlim : n + 21 ≤ 140737488355328) (htab : Lib.TabBelow Tryz.prog B w "internal/strconv.uint64pow10" .u64 Lib.pow10Tab) :
  Calls Tryz.prog 123 #[sv, .int .i64 i, .int .i64 10] w fun e w' => ∃ v', e = .returned v' ∧ w'.ownsRow B 5 1 v' (n + (Lib.itoa i).length) (xs ++ Lib.byteCells (Lib.itoa i)) ∧ Below B w w' ∧ Lib.OthersKept 5 none w w' := Any.strconv_AppendInt_10 Tryz.laysM176 B n i h0 h1 sv xs w hown hBw hlim htab
end Go.Proofs

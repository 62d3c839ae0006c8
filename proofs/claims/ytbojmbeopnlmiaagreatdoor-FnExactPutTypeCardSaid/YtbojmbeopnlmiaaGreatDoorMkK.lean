/-
  A maker's key: what turns while it is written, and that all else of the maker stands.
-/
import Derived.Test.YtbojmbeopnlmiaaGreatDoorMkL
import Derived.Test.YtbojmbeopnlmiaaGreatDoorMkF
import Derived.Lib.AppendIntMem
namespace Go.Proofs.YtbojmbeopnlmiaaGreatDoor
open Go.RowKit

/-- from its base on, rows of bytes alone may have turned -/
structure ByteF (C : MkC) (w w2 : World) : Prop where
  below : Below C.B w w2
  others : Lib.OthersKept 5 none w w2

theorem ByteF.refl (C : MkC) (w : World) : ByteF C w w := ⟨Below.refl _ _, Lib.OthersKept.refl _ _ _⟩
theorem ByteF.trans {C : MkC} {a b c : World} (h : ByteF C a b) (k : ByteF C b c) : ByteF C a c := ⟨h.below.trans k.below, h.others.trans k.others⟩
theorem ByteF.alloc {C : MkC} {a w : World} (h : ByteF C a w) (hB : C.B ≤ w.heap.size) (o : Obj) : ByteF C a (w.alloc o) := ⟨h.below.alloc hB o, h.others.alloc o⟩
theorem ByteF.drew {C : MkC} {a w : World} (h : ByteF C a w) : ByteF C a w.drew := ⟨h.below.drew, h.others.drew⟩
theorem ByteF.grown {C : MkC} {a w w' : World} {v : Value} {n : Nat} {xs : List Value} (h : ByteF C a w) (hB : C.B ≤ w.heap.size) (ho : w.ownsRow C.B 5 1 v n xs) (hg : w.grownBy w' v.ownBlock) : ByteF C a w' := by
  refine ⟨h.below.grown hg hB fun k hk => (ho.lt k hk).1, h.others.grown hg fun g hg' => ?_⟩
  rcases ho.2 with ⟨rfl, _⟩ | ⟨g', cap, cur, rfl, _, hh, _⟩
  · simp [Value.ownBlock] at hg'
  · simp only [Value.ownBlock, Option.some.injEq] at hg'
    subst hg'
    exact ⟨_, _, hh⟩
theorem ByteF.cells {C : MkC} {w w2 : World} (h : ByteF C w w2) {b : Nat} {c : Array Value} {T : TypeId} {fz : Nat × Nat} (hb : w.heap[b]? = some (.cells c T fz)) (hT : T ≠ 5) : w2.heap[b]? = some (.cells c T fz) :=
  h.others b _ hb (by simp) fun c' fz' e => by simp only [Obj.cells.injEq] at e; exact hT e.2.1
theorem ByteF.map {C : MkC} {w w2 : World} (h : ByteF C w w2) {b : Nat} {es : Array MapEntry} {clk : Nat} (hb : w.heap[b]? = some (.map es clk)) : w2.heap[b]? = some (.map es clk) :=
  h.others b _ hb (by simp) fun c' fz' e => by simp at e
theorem ByteF.mkf {C : MkC} {w w2 : World} (h : ByteF C w w2) : MkF C w w2 := by
  refine ⟨h.below.os, h.below.tape, h.below.output, h.below.size, fun b hb hm => ?_⟩
  by_cases c : b < C.B
  · exact h.below.block b c
  · obtain ⟨o, ho⟩ : ∃ o, w.heap[b]? = some o := ⟨_, Array.getElem?_eq_getElem hb⟩
    rw [ho]
    refine h.others b o ho (by simp) fun c' fz' e => hm ⟨by omega, .inr ⟨c', _, fz', ?_, .inl rfl⟩⟩
    rw [ho, e]

theorem st_ne (k : Int) : stT k ≠ 5 ∧ stT k ≠ 92 := by
  unfold stT
  repeat' split
  all_goals decide

/-- a maker with another key -/
theorem MkAt.rekey {C : MkC} {w w2 : World} {M : Mk} {v' : Value} {n : Nat} {xs : List Value} (h : MkAt C w M) (hb : ByteF C w w2) (ho : w2.ownsRow C.B 5 1 v' n xs) :
    MkAt C (w2.setCell ⟨C.mb, 0, none⟩ v') M ∧ (w2.setCell ⟨C.mb, 0, none⟩ v').heap[C.mb]? = some (.cells #[v', .map (some C.fb), .map (some C.lb), .map (some C.tb)] 92 (0, 0)) ∧ (w2.setCell ⟨C.mb, 0, none⟩ v').ownsRow C.B 5 1 v' n xs ∧ MkF C w (w2.setCell ⟨C.mb, 0, none⟩ v') := by
  obtain ⟨vkey, nk, ys, hs, _⟩ := h.self
  have hs2 := hb.cells hs (by decide)
  have hs3 : (w2.setCell ⟨C.mb, 0, none⟩ v').heap[C.mb]? = some (.cells #[v', .map (some C.fb), .map (some C.lb), .map (some C.tb)] 92 (0, 0)) := heap_setCell_same w2 C.mb 0 _ _ v' hs2
  have hne : ∀ b, b ≠ C.mb → (w2.setCell ⟨C.mb, 0, none⟩ v').heap[b]? = w2.heap[b]? := fun b hb' => Below.heap_setCell _ _ _ _ hb'
  have ho3 : (w2.setCell ⟨C.mb, 0, none⟩ v').ownsRow C.B 5 1 v' n xs := by
    refine ⟨ho.1, ?_⟩
    rcases ho.2 with q | ⟨g, cap, cur, hv, hg, hh, q⟩
    · exact .inl q
    · refine .inr ⟨g, cap, cur, hv, hg, ?_, q⟩
      rw [hne g fun e => by rw [e, hs2] at hh; simp only [Option.some.injEq, Obj.cells.injEq] at hh; exact absurd hh.2.1 (by decide)]
      exact hh
  have hF : MkF C w (w2.setCell ⟨C.mb, 0, none⟩ v') := by
    refine hb.mkf.trans ⟨rfl, rfl, rfl, by simp, fun b _ hm => hne b fun e => hm ?_⟩
    subst e
    exact ⟨h.geo.2.2.2.1, .inr ⟨_, _, _, hs2, .inr (.inl rfl)⟩⟩
  have hS : SameOn M.ext w (w2.setCell ⟨C.mb, 0, none⟩ v') := ExtOk.sameF (A := M.ext) h.extok hF
  have hM : ∀ (b : Nat) (es : Array MapEntry) (clk : Nat), w.heap[b]? = some (.map es clk) → (w2.setCell ⟨C.mb, 0, none⟩ v').heap[b]? = w.heap[b]? := fun b es clk hm => by
    rw [hne b fun e => by rw [e, hs] at hm; simp at hm, hb.map hm, hm]
  refine ⟨⟨h.geo, ⟨v', n, xs, hs3, ho3⟩, ?_, ?_, ?_, fun p hp => ?_, fun k r hr => ?_, h.uniq, h.blks, fun r hr => (h.ls r hr).same hS, ExtOk.step (A := M.ext) h.extok hF, h.small⟩, hs3, ho3, hF⟩
  · obtain ⟨es, c, q1, q2⟩ := h.forms
    exact ⟨es, c, (hM _ _ _ q1).trans q1, q2⟩
  · obtain ⟨es, c, q1, q2⟩ := h.lists
    exact ⟨es, c, (hM _ _ _ q1).trans q1, q2⟩
  · obtain ⟨es, c, q1, q2⟩ := h.types
    exact ⟨es, c, (hM _ _ _ q1).trans q1, q2⟩
  · obtain ⟨r, q1, q2⟩ := h.tys p hp
    exact ⟨r, q1, q2.same hS⟩
  · refine (h.each k r hr).same hS ?_
    obtain ⟨vp, sz, q1, _⟩ := (h.each k r hr).obj
    rw [hne r.blk fun e => by rw [e, hs] at q1; simp only [Option.some.injEq, Obj.cells.injEq] at q1; exact (st_ne _).2 q1.2.1.symm, hb.cells q1 (st_ne _).1, q1]

/-- a maker whose key is this -/
def KeyIs (C : MkC) (w : World) (M : Mk) (l : List UInt8) : Prop := MkAt C w M ∧ ∃ vkey, w.heap[C.mb]? = some (.cells #[vkey, .map (some C.fb), .map (some C.lb), .map (some C.tb)] 92 (0, 0)) ∧ w.ownsRow C.B 5 1 vkey l.length (Lib.byteCells l)

theorem block4M {W : World} {b : Nat} {x0 x1 x2 x3 : Value} (h : W.heap[b]? = some (.cells #[x0, x1, x2, x3] 92 (0, 0))) : (W.cell? ⟨b, 0, none⟩ = some x0 ∧ W.cell? ⟨b, 1, none⟩ = some x1 ∧ W.cell? ⟨b, 2, none⟩ = some x2 ∧ W.cell? ⟨b, 3, none⟩ = some x3) ∧ ∀ j, W.frozen? ⟨b, j, none⟩ = false := by
  refine ⟨⟨?_, ?_, ?_, ?_⟩, fun j => frozen_of_row W b j _ _ h⟩
  · rw [cell_of_row W b 0 _ _ (0, 0) h]; rfl
  · rw [cell_of_row W b 1 _ _ (0, 0) h]; rfl
  · rw [cell_of_row W b 2 _ _ (0, 0) h]; rfl
  · rw [cell_of_row W b 3 _ _ (0, 0) h]; rfl

theorem slice_own1 {w : World} {B e : Nat} {v : Value} {n : Nat} {xs : List Value} (h : w.ownsRow B e 1 v n xs) : ∃ a cap, v = .slice a n cap := by
  rcases h.2 with ⟨rfl, h0⟩ | ⟨g, cap, cur, hv, _⟩
  · exact ⟨none, 0, by rw [h0]⟩
  · exact ⟨_, cap, hv⟩
theorem owns_none {w : World} {B e : Nat} {a : Option Addr} {n cap : Nat} {xs : List Value} (h : w.ownsRow B e 1 (.slice a n cap) n xs) : w.ownsRow B e 1 (.slice a 0 cap) 0 [] := by
  refine ⟨by simp, ?_⟩
  rcases h.2 with ⟨q, q0⟩ | ⟨g, c, cur, hv, hg, hh, h1, h2, h3, h4⟩
  · simp only [Value.slice.injEq] at q
    exact .inl ⟨by rw [q.1, q.2.2], rfl⟩
  · simp only [Value.slice.injEq] at hv
    exact .inr ⟨g, c, cur, by rw [hv.1, hv.2.2], hg, hh, Nat.zero_le _, h2, h3, by simp⟩

end Go.Proofs.YtbojmbeopnlmiaaGreatDoor

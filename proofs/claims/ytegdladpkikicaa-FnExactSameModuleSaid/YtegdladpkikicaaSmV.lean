/-
  A record of sixteen cells stored, whatever the cells are.
-/
import Derived.Test.YtegdladpkikicaaXpT
namespace Go.Proofs.Ytegdladpkikicaa
open Go.RowKit

theorem putL_other {b k : Nat} (hk : k ≠ b) : ∀ (l : List Value) (X : World) (i : Nat), (putL X b i l).heap[k]? = X.heap[k]? := by
  intro l
  induction l with
  | nil => intros; rfl
  | cons v r ih =>
    intro X i
    exact (ih (X.setCell ⟨b, i, none⟩ v) (i + 1)).trans (Below.heap_setCell _ _ _ _ (by simpa using hk))
theorem run_store1 {P : Program} {X : World} {b i : Nat} {cs : Array Value} {t : TypeId} {c : Value} (h : X.heap[b]? = some (.cells cs t (0, 0))) (hi : i < cs.size) (hc : c.oneCell' = true) : Sem.run P (store ⟨b, i, none⟩ c) X = .ok () (X.setCell ⟨b, i, none⟩ c) ∧ ∃ cs', (X.setCell ⟨b, i, none⟩ c).heap[b]? = some (.cells cs' t (0, 0)) ∧ cs'.size = cs.size := by
  have h1 : X.cell? ⟨b, i, none⟩ = some cs[i] := by rw [cell_of_row _ _ i _ _ (0, 0) h]; exact Array.getElem?_eq_getElem hi
  have h2 := frozen_of_row _ _ i _ _ h
  refine ⟨?_, _, heap_setCell_same _ _ i _ _ _ h, by simp⟩
  have := run_store P X ⟨b, i, none⟩ c .plain hc
  rw [h1, h2] at this
  simpa using this
theorem run_store16 (P : Program) (W : World) (b : Nat) (t : TypeId) (cs : Array Value) (h : W.heap[b]? = some (.cells cs t (0, 0))) (hz : cs.size = 16) (c0 c1 c2 c3 c4 c5 c6 c7 c8 c9 c10 c11 c12 c13 c14 c15 : Value) (n0 : c0.oneCell' = true) (n1 : c1.oneCell' = true) (n2 : c2.oneCell' = true) (n3 : c3.oneCell' = true) (n4 : c4.oneCell' = true) (n5 : c5.oneCell' = true) (n6 : c6.oneCell' = true) (n7 : c7.oneCell' = true) (n8 : c8.oneCell' = true) (n9 : c9.oneCell' = true) (n10 : c10.oneCell' = true) (n11 : c11.oneCell' = true) (n12 : c12.oneCell' = true) (n13 : c13.oneCell' = true) (n14 : c14.oneCell' = true) (n15 : c15.oneCell' = true) :
    ((Sem.run P (store ⟨b, 0, none⟩ c0) W).andThen fun _ w' => (Sem.run P (store ⟨b, 1, none⟩ c1) w').andThen fun _ w' => (Sem.run P (store ⟨b, 2, none⟩ c2) w').andThen fun _ w' => (Sem.run P (store ⟨b, 3, none⟩ c3) w').andThen fun _ w' => (Sem.run P (store ⟨b, 4, none⟩ c4) w').andThen fun _ w' => (Sem.run P (store ⟨b, 5, none⟩ c5) w').andThen fun _ w' => (Sem.run P (store ⟨b, 6, none⟩ c6) w').andThen fun _ w' => (Sem.run P (store ⟨b, 7, none⟩ c7) w').andThen fun _ w' => (Sem.run P (store ⟨b, 8, none⟩ c8) w').andThen fun _ w' => (Sem.run P (store ⟨b, 9, none⟩ c9) w').andThen fun _ w' => (Sem.run P (store ⟨b, 10, none⟩ c10) w').andThen fun _ w' => (Sem.run P (store ⟨b, 11, none⟩ c11) w').andThen fun _ w' => (Sem.run P (store ⟨b, 12, none⟩ c12) w').andThen fun _ w' => (Sem.run P (store ⟨b, 13, none⟩ c13) w').andThen fun _ w' => (Sem.run P (store ⟨b, 14, none⟩ c14) w').andThen fun _ w' => Sem.run P (store ⟨b, 15, none⟩ c15) w') = .ok () (putL W b 0 [c0, c1, c2, c3, c4, c5, c6, c7, c8, c9, c10, c11, c12, c13, c14, c15]) := by
  obtain ⟨r0, cs0, h0, z0⟩ := run_store1 (P := P) (c := c0) (i := 0) h (by omega) n0
  obtain ⟨r1, cs1, h1, z1⟩ := run_store1 (P := P) (c := c1) (i := 1) h0 (by omega) n1
  obtain ⟨r2, cs2, h2, z2⟩ := run_store1 (P := P) (c := c2) (i := 2) h1 (by omega) n2
  obtain ⟨r3, cs3, h3, z3⟩ := run_store1 (P := P) (c := c3) (i := 3) h2 (by omega) n3
  obtain ⟨r4, cs4, h4, z4⟩ := run_store1 (P := P) (c := c4) (i := 4) h3 (by omega) n4
  obtain ⟨r5, cs5, h5, z5⟩ := run_store1 (P := P) (c := c5) (i := 5) h4 (by omega) n5
  obtain ⟨r6, cs6, h6, z6⟩ := run_store1 (P := P) (c := c6) (i := 6) h5 (by omega) n6
  obtain ⟨r7, cs7, h7, z7⟩ := run_store1 (P := P) (c := c7) (i := 7) h6 (by omega) n7
  obtain ⟨r8, cs8, h8, z8⟩ := run_store1 (P := P) (c := c8) (i := 8) h7 (by omega) n8
  obtain ⟨r9, cs9, h9, z9⟩ := run_store1 (P := P) (c := c9) (i := 9) h8 (by omega) n9
  obtain ⟨r10, cs10, h10, z10⟩ := run_store1 (P := P) (c := c10) (i := 10) h9 (by omega) n10
  obtain ⟨r11, cs11, h11, z11⟩ := run_store1 (P := P) (c := c11) (i := 11) h10 (by omega) n11
  obtain ⟨r12, cs12, h12, z12⟩ := run_store1 (P := P) (c := c12) (i := 12) h11 (by omega) n12
  obtain ⟨r13, cs13, h13, z13⟩ := run_store1 (P := P) (c := c13) (i := 13) h12 (by omega) n13
  obtain ⟨r14, cs14, h14, z14⟩ := run_store1 (P := P) (c := c14) (i := 14) h13 (by omega) n14
  obtain ⟨r15, cs15, h15, z15⟩ := run_store1 (P := P) (c := c15) (i := 15) h14 (by omega) n15
  simp only [r0, r1, r2, r3, r4, r5, r6, r7, r8, r9, r10, r11, r12, r13, r14, r15, Result.andThen_ok]
  rfl


end Go.Proofs.Ytegdladpkikicaa

/-
  What an exact law over stores holds in memory: its argument, and boxes that hold stores whose items lie in rows of their own, no two in one block; a lemma for each thing that happens to it.
-/
import Derived.Test.YtoebfpdalkpkdaaDoorItQ
import Derived.Test.YtoebfpdalkpkdaaDoorItM
namespace Go.Proofs.YtoebfpdalkpkdaaDoor
open Go.RowKit

/-- a box that holds a store of this room and these items, and the row of its items -/
abbrev SBox := Nat × Value × List Itm
structure LMem (w Y : World) (room : Int) (bA : Nat) (vA : Value) (bs : List SBox) : Prop where
  bel : Below w.heap.size w Y
  arg : Y.heap[bA]? = some (.cells #[.int .i64 room, vA] 24 (0, 0))
  box : ∀ e ∈ bs, Y.heap[e.1]? = some (.cells #[.int .i64 room, e.2.1] 29 (0, 0))
  row : ∀ e ∈ bs, Y.ownsRow w.heap.size 50 3 e.2.1 e.2.2.length (itV e.2.2)
  dif : bs.Pairwise fun e f => e.2.1.ownBlock = none ∨ e.2.1.ownBlock ≠ f.2.1.ownBlock

theorem LMem.below {w Y Z : World} {room : Int} {bA : Nat} {vA : Value} {bs : List SBox} (h : LMem w Y room bA vA bs) (hb : Below Y.heap.size Y Z) : LMem w Z room bA vA bs :=
  ⟨h.bel.trans (hb.mono h.bel.size), (hb.block bA (Array.getElem?_eq_some_iff.1 h.arg).1).trans h.arg, fun e he => (hb.block e.1 (Array.getElem?_eq_some_iff.1 (h.box e he)).1).trans (h.box e he), fun e he => itKept (h.row e he) hb, h.dif⟩

theorem row_ltI {w : World} {B n g : Nat} {v : Value} {xs : List Value} (h : w.ownsRow B 50 3 v n xs) (hg : v.ownBlock = some g) : B ≤ g ∧ g < w.heap.size := h.lt g hg

/-- one more store, its items in new memory, and its box -/
theorem LMem.add {w Y Z : World} {room : Int} {bA : Nat} {vA : Value} {bs : List SBox} (h : LMem w Y room bA vA bs) {v : Value} {L : List Itm} (hb : Below Y.heap.size Y Z) (ho : Z.ownsRow Y.heap.size 50 3 v L.length (itV L)) :
    LMem w (Z.alloc (.cells #[.int .i64 room, v] 29)) room bA vA ((Z.heap.size, v, L) :: bs) := by
  have hA : Below Z.heap.size Z (Z.alloc (.cells #[.int .i64 room, v] 29)) := (Below.refl _ _).alloc (Nat.le_refl _) _
  have h2 := (h.below hb).below hA
  refine ⟨h2.bel, h2.arg, fun e he => ?_, fun e he => ?_, List.pairwise_cons.2 ⟨fun f hf => ?_, h.dif⟩⟩
  · rcases List.mem_cons.1 he with rfl | he
    · exact (MapKept.heap_alloc Z _).1
    · exact h2.box e he
  · rcases List.mem_cons.1 he with rfl | he
    · exact itLow (itKept ho hA) h.bel.size fun _ _ => rfl
    · exact h2.row e he
  · cases hv : v.ownBlock with
    | none => exact .inl rfl
    | some g =>
      refine .inr fun e => ?_
      have h3 := (row_ltI ho hv).1
      have h4 := (row_ltI (h.row f hf) e.symm).2
      omega

/-- one of the rows turned, and no other block -/
theorem LMem.mark {w Y Z : World} {room : Int} {bA : Nat} {vA : Value} {l1 l2 : List SBox} {b : Nat} {v : Value} {L L' : List Itm} (h : LMem w Y room bA vA (l1 ++ (b, v, L) :: l2)) (hg : Y.grownBy Z v.ownBlock) (hl : L'.length = L.length) (ho : Z.ownsRow w.heap.size 50 3 v L.length (itV L')) :
    LMem w Z room bA vA (l1 ++ (b, v, L') :: l2) := by
  have hme : (b, v, L) ∈ l1 ++ (b, v, L) :: l2 := by simp
  have hty : ∀ (g : Nat) (cur : Array Value) (t : TypeId), v.ownBlock = some g → Y.heap[g]? = some (.cells cur t (0, 0)) → t = 50 := fun g cur t hv hh => by
    rcases (h.row _ hme).2 with ⟨e, _⟩ | ⟨g', cap, cur', e, _, hh', _⟩
    · have e' : v = .slice none 0 0 := e
      rw [e'] at hv; cases hv
    · have e' : v = .slice (some ⟨g', 0, none⟩) L.length cap := e
      rw [e'] at hv
      simp only [Value.ownBlock, Option.some.injEq] at hv
      subst hv
      rw [hh'] at hh
      simp only [Option.some.injEq, Obj.cells.injEq] at hh
      exact hh.2.1.symm
  have hkeep : ∀ (c : Nat) (cur : Array Value) (t : TypeId), t ≠ 50 → Y.heap[c]? = some (.cells cur t (0, 0)) → Z.heap[c]? = some (.cells cur t (0, 0)) := fun c cur t ht hh => by
    rw [hg.block c (Array.getElem?_eq_some_iff.1 hh).1 fun e => ht (hty c cur t e.symm hh)]
    exact hh
  have hin : ∀ e, e ∈ l1 ++ (b, v, L') :: l2 → e = (b, v, L') ∨ (e ∈ l1 ++ (b, v, L) :: l2 ∧ (e.2.1.ownBlock = none ∨ e.2.1.ownBlock ≠ v.ownBlock)) := fun e he => by
    have hd := List.pairwise_append.1 h.dif
    have hd2 := List.pairwise_cons.1 hd.2.1
    rcases List.mem_append.1 he with he | he
    · exact .inr ⟨List.mem_append_left _ he, hd.2.2 e he _ (List.mem_cons_self ..)⟩
    · rcases List.mem_cons.1 he with he | he
      · exact .inl he
      · refine .inr ⟨List.mem_append_right _ (List.mem_cons_of_mem _ he), ?_⟩
        rcases hd2.1 e he with h0 | h0
        · have h0' : v.ownBlock = none := h0
          cases hq : e.2.1.ownBlock with
          | none => exact .inl rfl
          | some g => exact .inr (by rw [h0']; simp)
        · exact .inr fun e' => h0 e'.symm
  refine ⟨?_, hkeep _ _ _ (by decide) h.arg, fun e he => ?_, fun e he => ?_, ?_⟩
  · refine ⟨hg.os.trans h.bel.os, hg.tape.trans h.bel.tape, hg.output.trans h.bel.output, Nat.le_trans h.bel.size hg.size, fun c hc => ?_⟩
    rw [hg.block c (Nat.lt_of_lt_of_le hc h.bel.size) fun e => by
      have := (row_ltI (h.row _ hme) e.symm).1
      omega]
    exact h.bel.block c hc
  · rcases hin e he with rfl | ⟨h1, _⟩
    · exact hkeep _ _ _ (by decide) (h.box (b, v, L) hme)
    · exact hkeep _ _ _ (by decide) (h.box e h1)
  · rcases hin e he with rfl | ⟨h1, h2⟩
    · show Z.ownsRow w.heap.size 50 3 v L'.length (itV L')
      rw [hl]
      exact ho
    · exact (h.row e h1).kept hg h2
  · have := h.dif
    rw [List.pairwise_append, List.pairwise_cons] at this ⊢
    refine ⟨this.1, ⟨fun f hf => this.2.1.1 f hf, this.2.1.2⟩, fun a ha f hf => ?_⟩
    rcases List.mem_cons.1 hf with rfl | hf
    · exact this.2.2 a ha (b, v, L) (List.mem_cons_self ..)
    · exact this.2.2 a ha f (List.mem_cons_of_mem _ hf)

/-- the cells of a box of two -/
theorem two_cellsI {W : World} {b : Nat} {x0 x1 : Value} {t : TypeId} (h : W.heap[b]? = some (.cells #[x0, x1] t (0, 0))) : W.cell? ⟨b, 0, none⟩ = some x0 ∧ W.cell? ⟨b, 1, none⟩ = some x1 := by
  refine ⟨?_, ?_⟩
  · rw [cell_of_row W b 0 _ _ (0, 0) h]; rfl
  · rw [cell_of_row W b 1 _ _ (0, 0) h]; rfl
theorem LMem.argCells {w Y : World} {room : Int} {bA : Nat} {vA : Value} {bs : List SBox} (h : LMem w Y room bA vA bs) : Y.cell? ⟨bA, 0, none⟩ = some (.int .i64 room) ∧ Y.cell? ⟨bA, 1, none⟩ = some vA := two_cellsI h.arg
theorem LMem.cells {w Y : World} {room : Int} {bA : Nat} {vA : Value} {bs : List SBox} (h : LMem w Y room bA vA bs) {e : SBox} (he : e ∈ bs) : Y.cell? ⟨e.1, 0, none⟩ = some (.int .i64 room) ∧ Y.cell? ⟨e.1, 1, none⟩ = some e.2.1 := two_cellsI (h.box e he)
theorem LMem.items {w Y : World} {room : Int} {bA : Nat} {vA : Value} {bs : List SBox} (h : LMem w Y room bA vA bs) {e : SBox} (he : e ∈ bs) : ItAt Y e.2.1 e.2.2 := itRow (h.row e he)

theorem lmemBase {w : World} {room : Int} {vA : Value} : LMem w (w.alloc (.cells #[.int .i64 room, vA] 24)) room w.heap.size vA [] :=
  ⟨(Below.refl _ _).alloc (Nat.le_refl _) _, (MapKept.heap_alloc w _).1, fun _ h => (List.not_mem_nil h).elim, fun _ h => (List.not_mem_nil h).elim, List.Pairwise.nil⟩

end Go.Proofs.YtoebfpdalkpkdaaDoor

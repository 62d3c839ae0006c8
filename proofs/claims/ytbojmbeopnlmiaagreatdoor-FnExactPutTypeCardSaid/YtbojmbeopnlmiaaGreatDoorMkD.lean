/-
  What a maker has in memory: its forms, the lists that it went through, the types that it made; and what stays while it works.
-/
import Derived.Test.YtbojmbeopnlmiaaGreatDoorTyQ
import Derived.Test.YtbojmbeopnlmiaaGreatDoorMkP
import Derived.Test.YtbojmbeopnlmiaaGreatDoorSMap
import Derived.Test.YtbojmbeopnlmiaaGreatDoorToTy
import Derived.Lib.OthersKept
namespace Go.Proofs.YtbojmbeopnlmiaaGreatDoor
open Go.RowKit

/-- the types of a form of each kind, and of pointers to these -/
def stT (k : Int) : TypeId := if k = 0 then 192 else if k = 1 then 194 else if k = 2 then 196 else if k = 3 then 206 else if k = 4 then 199 else if k = 5 then 202 else if k = 6 then 204 else 205
def ptT (k : Int) : TypeId := if k = 0 then 190 else if k = 1 then 193 else if k = 2 then 195 else if k = 3 then 187 else if k = 4 then 197 else if k = 5 then 200 else if k = 6 then 203 else 188
/-- types of what a maker writes into -/
def mkT (T : TypeId) : Prop := T = 5 ∨ T = 92 ∨ T = 192 ∨ T = 194 ∨ T = 196 ∨ T = 206 ∨ T = 199 ∨ T = 202 ∨ T = 204 ∨ T = 205
/-- types of rows that it only reads -/
def extT (T : TypeId) : Prop := T = 94 ∨ T = 9 ∨ T = 30 ∨ T = 211
theorem ext_not_mk {T : TypeId} (h : extT T) : ¬ mkT T := by
  unfold extT at h
  unfold mkT
  rcases h with rfl | rfl | rfl | rfl <;> decide
theorem st_mk (k : Int) : mkT (stT k) := by
  unfold stT mkT
  repeat' split
  all_goals simp

/-- where a maker lies: its base, itself, its three maps -/
structure MkC where
  B : Nat
  mb : Nat
  fb : Nat
  lb : Nat
  tb : Nat

/-- the block is one that a maker may write into -/
def Mine (C : MkC) (w : World) (b : Nat) : Prop := C.B ≤ b ∧ ((∃ es clk, w.heap[b]? = some (.map es clk) ∧ (b = C.fb ∨ b = C.lb ∨ b = C.tb)) ∨ ∃ c T fz, w.heap[b]? = some (.cells c T fz) ∧ mkT T)

/-- what stays while a maker works -/
structure MkF (C : MkC) (w w' : World) : Prop where
  os : w'.os = w.os
  tape : w'.tape = w.tape
  output : w'.output = w.output
  size : w.heap.size ≤ w'.heap.size
  old : ∀ b, b < w.heap.size → ¬ Mine C w b → w'.heap[b]? = w.heap[b]?

theorem MkF.refl (C : MkC) (w : World) : MkF C w w := ⟨rfl, rfl, rfl, Nat.le_refl _, fun _ _ _ => rfl⟩
theorem Mine.same {C : MkC} {w w' : World} {b : Nat} (e : w'.heap[b]? = w.heap[b]?) : Mine C w' b ↔ Mine C w b := by unfold Mine; rw [e]
theorem MkF.trans {C : MkC} {a b c : World} (h : MkF C a b) (k : MkF C b c) : MkF C a c :=
  ⟨k.os.trans h.os, k.tape.trans h.tape, k.output.trans h.output, Nat.le_trans h.size k.size, fun x hx hm => by
    have e := h.old x hx hm
    exact (k.old x (Nat.lt_of_lt_of_le hx h.size) fun q => hm ((Mine.same e).1 q)).trans e⟩
theorem MkF.ofBelow {C : MkC} {w w' : World} (h : Below w.heap.size w w') : MkF C w w' := ⟨h.os, h.tape, h.output, h.size, fun b hb _ => h.block b hb⟩
theorem MkF.below {C : MkC} {w w' : World} (h : MkF C w w') (hB : C.B ≤ w.heap.size) : Below C.B w w' := ⟨h.os, h.tape, h.output, h.size, fun b hb => h.old b (by omega) fun q => by have := q.1; omega⟩
theorem MkF.alloc {C : MkC} {a w : World} (h : MkF C a w) (o : Obj) : MkF C a (w.alloc o) := h.trans (MkF.ofBelow ((Below.refl _ _).alloc (Nat.le_refl _) _))
theorem MkF.drew {C : MkC} {a w : World} (h : MkF C a w) : MkF C a w.drew := ⟨h.os, h.tape, h.output, h.size, h.old⟩

/-- a row of another type stays -/
theorem MkF.row {C : MkC} {w w' : World} (h : MkF C w w') {b : Nat} {c : Array Value} {T : TypeId} {fz : Nat × Nat} (hb : w.heap[b]? = some (.cells c T fz)) (hT : ¬ mkT T) : w'.heap[b]? = some (.cells c T fz) :=
  (h.old b (Array.getElem?_eq_some_iff.1 hb).1 fun q => by
    rcases q.2 with ⟨es, clk, e, _⟩ | ⟨c', T', fz', e, hm⟩
    · rw [hb] at e; simp at e
    · rw [hb] at e
      simp only [Option.some.injEq, Obj.cells.injEq] at e
      rw [← e.2.1] at hm
      exact hT hm).trans hb
theorem MkF.owns {C : MkC} {w w' : World} (h : MkF C w w') {base e z n : Nat} {v : Value} {xs : List Value} (ho : w.ownsRow base e z v n xs) (he : ¬ mkT e) : w'.ownsRow base e z v n xs := by
  refine ⟨ho.1, ?_⟩
  rcases ho.2 with q | ⟨g, cap, cur, hv, hg, hh, r⟩
  · exact .inl q
  · exact .inr ⟨g, cap, cur, hv, hg, h.row hh he, r⟩
/-- one step: a block of a maker's own is written into -/
theorem MkF.wrote {C : MkC} {a w w' : World} {b : Nat} (h : MkF C a w) (hb : But b w w') (hm : Mine C w b) : MkF C a w' := h.trans
  ⟨hb.1, hb.2.1, hb.2.2.1, Nat.le_of_eq hb.2.2.2.1.symm, fun x _ hx => hb.2.2.2.2 x fun e => hx (e ▸ hm)⟩

end Go.Proofs.YtbojmbeopnlmiaaGreatDoor

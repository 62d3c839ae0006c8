/-
  The walk of a book's find.
-/
import Derived.Test.YteocagdlbnhpgaaBkI
import Derived.Test.YteocagdlbnhpgaaNmTo
import Derived.Test.YteocagdlbnhpgaaPartsW
namespace Go.Proofs.Yteocagdlbnhpgaa
open Go.RowKit

/-- what a book's find answers: the first of that name, or nothing -/
def FindAns (w : World) (n : Nat) (es : List (ByteArray × Ty)) (s : ByteArray) (cs : List Value) (ok : Bool) : Prop :=
  (ok = true ∧ ∃ (j : Nat) (h : First es s j) (lo hi : Nat), TyIn w n lo hi cs (es[j]'h.1).2) ∨ (ok = false ∧ (∀ j (h : j < es.length), es[j].1 ≠ s) ∧ cs = [.int .i64 0, .string ⟨#[]⟩, .slice none 0 0, .slice none 0 0])

theorem block4F {W : World} {b : Nat} {x0 x1 x2 x3 : Value} (h : W.heap[b]? = some (.cells #[x0, x1, x2, x3] 37 (0, 0))) :
    (W.cell? ⟨b, 0, none⟩ = some x0 ∧ W.cell? ⟨b, 1, none⟩ = some x1 ∧ W.cell? ⟨b, 2, none⟩ = some x2 ∧ W.cell? ⟨b, 3, none⟩ = some x3) ∧ ∀ j, W.frozen? ⟨b, j, none⟩ = false := by
  refine ⟨⟨?_, ?_, ?_, ?_⟩, fun j => frozen_of_row W b j _ _ h⟩
  · rw [cell_of_row W b 0 _ _ (0, 0) h]; rfl
  · rw [cell_of_row W b 1 _ _ (0, 0) h]; rfl
  · rw [cell_of_row W b 2 _ _ (0, 0) h]; rfl
  · rw [cell_of_row W b 3 _ _ (0, 0) h]; rfl
theorem ret_find {R : Ending → World → Prop} {W : World} {tmps : Array Value} {b : Nat} {x0 x1 x2 x3 : Value} {ok : Bool} (hp : tmps[4]?.getD undef = .pointer (some ⟨b, 0, none⟩)) (hq : tmps[5]?.getD undef = .bool ok)
    (h : W.cell? ⟨b, 0, none⟩ = some x0 ∧ W.cell? ⟨b, 1, none⟩ = some x1 ∧ W.cell? ⟨b, 2, none⟩ = some x2 ∧ W.cell? ⟨b, 3, none⟩ = some x3) (hR : R (.returned (.tuple #[.agg #[x0, x1, x2, x3], .bool ok])) W) :
    bodyPost Try.prog Try.f34 R .ret { tmps := tmps, defers := [] } W := by
  obtain ⟨h0, h1, h2, h3⟩ := h
  refine bodyPost_ret (v := .tuple #[.agg #[x0, x1, x2, x3], .bool ok]) ?_ rfl hR
  simp [results, Try.results34, go_sem, hp, hq, h0, h1, h2, h3]

set_option maxHeartbeats 1600000 in
set_option maxRecDepth 100000 in
theorem implFind (n lo hi : Nat) (v : Value) (es : List (ByteArray × Ty)) (M : Nat) (D : List (ByteArray × Value)) (pm : Option Addr) (s : ByteArray) (w0 w : World) (hrow : EnvIn w0 n lo hi v es) (hhi : hi ≤ w0.heap.size) (hx : Below w0.heap.size w0 w) (hS : SMap w M D) (hD : BookD es es.length D) :
    Calls Try.prog 34 #[.agg #[v, .map (some M), .pointer pm], .string s] w fun e w' => ∃ (x0 x1 x2 x3 : Value) (ok : Bool), e = .returned (.tuple #[.agg #[x0, x1, x2, x3], .bool ok]) ∧ FindAns w0 n es s [x0, x1, x2, x3] ok ∧ Below w.heap.size w w' := by
  obtain ⟨b, capv, rfl, hlb, hbh, _, L, hL1, hL2, hL3⟩ := hrow
  have HEL : Hid (∀ k (h : k < es.length), ∃ x0 x1 x2 x3, TyIn w0 n (L k) (L (k + 1)) [x0, x1, x2, x3] es[k].2 ∧ w0.cell? ⟨b, k * 5 + 1, none⟩ = some x0 ∧ w0.cell? ⟨b, k * 5 + 2, none⟩ = some x1 ∧ w0.cell? ⟨b, k * 5 + 3, none⟩ = some x2 ∧ w0.cell? ⟨b, k * 5 + 4, none⟩ = some x3) := fun k h => by
    obtain ⟨_, cs, h1, _, h2⟩ := hL3 k h
    have hl := h1.len
    match cs, hl with
    | [x0, x1, x2, x3], _ => exact ⟨x0, x1, x2, x3, h1, h2 0 x0 rfl, h2 1 x1 rfl, h2 2 x2 rfl, h2 3 x3 rfl⟩
  obtain ⟨X, hX⟩ : ∃ X, X = (w.alloc (.cells #[.slice (some ⟨b, 0, none⟩) es.length capv, .map (some M), .pointer pm] 56)).alloc (.cells #[.int .i64 0, .string ⟨#[]⟩, .slice none 0 0, .slice none 0 0] 37) := ⟨_, rfl⟩
  have hbX : Below w.heap.size w X := by rw [hX]; exact ((Below.refl _ _).alloc (Nat.le_refl _) _).alloc (by simp) _
  have hSX : SMap X M D := hS.same (hbX.block M hS.lt)
  have h1X : X.heap[w.heap.size]? = some (.cells #[.slice (some ⟨b, 0, none⟩) es.length capv, .map (some M), .pointer pm] 56 (0, 0)) := by rw [hX]; exact heap_first w _ _
  have h2X : X.heap[w.heap.size + 1]? = some (.cells #[.int .i64 0, .string ⟨#[]⟩, .slice none 0 0, .slice none 0 0] 37 (0, 0)) := by rw [hX]; exact heap_second w _ _
  obtain ⟨⟨b0, b1, b2⟩, _⟩ := block3B h1X
  obtain ⟨⟨d0, d1, d2, d3⟩, df⟩ := block4F h2X
  have hbl : b < w0.heap.size := by omega
  have hb0 : Below w0.heap.size w0 X := hx.trans (hbX.mono hx.size)
  clear hL1 hL2 hL3
  rcases first_below (es := es) (s := s) (k := es.length) (Nat.le_refl _) with ⟨j, hj, hf⟩ | hno
  · have hz := (hD s).1 j hj hf
    obtain ⟨x0, x1, x2, x3, hty, q1, q2, q3, q4⟩ := HEL.out j hj
    obtain ⟨an2, ln2, cn2, ak2, lk2, ck2, ee⟩ := hty.shape
    simp only [List.cons.injEq, and_true] at ee
    obtain ⟨rfl, rfl, rfl, rfl⟩ := ee
    have HA : Hid (FindAns w0 n es s [.int .i64 es[j].2.kind, .string es[j].2.name, .slice an2 ln2 cn2, .slice ak2 lk2 ck2] true) := .inl ⟨rfl, j, hf, _, _, hty⟩
    have c1 := (hb0.cell (p := ⟨b, j * 5 + 1, none⟩) hbl).trans q1
    have c2 := (hb0.cell (p := ⟨b, j * 5 + 2, none⟩) hbl).trans q2
    have c3 := (hb0.cell (p := ⟨b, j * 5 + 3, none⟩) hbl).trans q3
    have c4 := (hb0.cell (p := ⟨b, j * 5 + 4, none⟩) hbl).trans q4
    have hlk := lookBk hSX s _ hz
    have hj0 : (0 : Int) ≤ (j : Int) := by omega
    have hj1 : (j : Int) < (es.length : Int) := by omega
    clear q1 q2 q3 q4 hty HEL hz hD hS hSX hf hbX hb0 hx h1X h2X
    generalize es[j].2.kind = kd at *
    generalize es[j].2.name = tn at *
    subst hX
    go_enter Try.func34, Try.ntmps34
    go_wp2_with fail
    refine ret_find rfl rfl (block4F (heap_second w _ _)).1 ⟨_, _, _, _, true, rfl, HA.out, ((Below.refl _ _).alloc (Nat.le_refl _) _).alloc (by simp) _⟩
  · have hz := (hD s).2 fun j h _ => hno j h h
    have hlk := lookBkNo hSX s hz
    have HA : Hid (FindAns w0 n es s [.int .i64 0, .string ⟨#[]⟩, .slice none 0 0, .slice none 0 0] false) := .inr ⟨rfl, fun j h => hno j h h, rfl⟩
    clear HEL hz hD hS hSX hno hbX hb0 hx h1X h2X
    subst hX
    go_enter Try.func34, Try.ntmps34
    go_wp2_with fail
    refine ret_find rfl rfl (block4F (heap_second w _ _)).1 ⟨_, _, _, _, false, rfl, HA.out, ((Below.refl _ _).alloc (Nat.le_refl _) _).alloc (by simp) _⟩

end Go.Proofs.Yteocagdlbnhpgaa

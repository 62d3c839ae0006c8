/-
  A slice of records of so many cells each, whatever they are: what it is in memory, its sums, its rows that are filled one by one. No program here.
  Rows of records that lie flat in memory; what an exact law holds in memory: boxes, and rows of its own, no two in one block. No program here.
-/
import Derived.Test.YtllbfbllkefjeaaGreatDoorTextsD
namespace Go.Proofs.YtllbfbllkefjeaaGreatDoor
open Go.RowKit

/-- a slice of records, each of so many cells, told by f -/
def RowA {α : Type} (z : Nat) (f : α → List Value) (w : World) (v : Value) (es : List α) : Prop :=
  (es = [] ∧ ∃ a cap, v = .slice a 0 cap) ∨ ∃ b off cap, v = .slice (some ⟨b, off, none⟩) es.length cap ∧ b < w.heap.size ∧ ∀ j (h : j < es.length) c u, (f es[j])[c]? = some u → w.cell? ⟨b, off + j * z + c, none⟩ = some u
theorem RowA.below {α : Type} {z : Nat} {f : α → List Value} {w w' : World} {v : Value} {es : List α} (h : RowA z f w v es) (hb : Below w.heap.size w w') : RowA z f w' v es := by
  rcases h with h | ⟨b, off, cap, e, hl, hc⟩
  · exact .inl h
  · exact .inr ⟨b, off, cap, e, Nat.lt_of_lt_of_le hl hb.size, fun j hj c u hu => (hb.cell (p := ⟨b, off + j * z + c, none⟩) hl).trans (hc j hj c u hu)⟩
theorem rowA_open {α : Type} {z : Nat} {f : α → List Value} {w : World} {v : Value} {es : List α} (h : RowA z f w v es) : ∃ av capv, v = .slice av es.length capv ∧ ∀ j (h : j < es.length), ∃ b off, av = some ⟨b, off, none⟩ ∧ b < w.heap.size ∧ ∀ c u, (f es[j])[c]? = some u → w.cell? ⟨b, off + j * z + c, none⟩ = some u := by
  rcases h with ⟨h, a, cap, e⟩ | ⟨b, off, cap, e, hl, hc⟩
  · exact ⟨a, cap, by rw [h]; exact e, fun j hj => by rw [h] at hj; simp at hj⟩
  · exact ⟨_, cap, e, fun j hj => ⟨b, off, rfl, hl, hc j hj⟩⟩

/-- how much is left -/
def leftA (b : Nat) (left : Int) : Int := if (b : Int) ≤ left then left - b else -1
theorem leftA_yes {b : Nat} {l : Int} (h : (b : Int) ≤ l) : leftA b l = l - b := if_pos h
theorem leftA_no {b : Nat} {l : Int} (h : ¬ (b : Int) ≤ l) : leftA b l = -1 := if_neg h
/-- how much records hold -/
def sumA {α : Type} (g : α → Nat) (es : List α) : Nat := (es.map g).sum
def bulkA {α : Type} (g : α → Nat) (es : List α) : Nat := es.length + sumA g es
theorem sumA_more {α : Type} (g : α → Nat) (es : List α) (k : Nat) (h : k < es.length) : sumA g (es.take (k + 1)) = sumA g (es.take k) + g es[k] := by
  unfold sumA
  rw [List.take_succ_eq_append_getElem h, List.map_append, List.sum_append]
  simp
theorem sumA_le {α : Type} (g : α → Nat) (es : List α) (k : Nat) : sumA g (es.take k) ≤ sumA g es := by
  unfold sumA
  have : es.map g = (es.take k).map g ++ (es.drop k).map g := by rw [← List.map_append, List.take_append_drop]
  rw [this, List.sum_append]
  omega
theorem bulkA_one {α : Type} (g : α → Nat) (es : List α) (k : Nat) (h : k < es.length) : g es[k] ≤ bulkA g es := by
  have h1 := sumA_more g es k h
  have h2 := sumA_le g es (k + 1)
  unfold bulkA
  omega

/-- a row's cells hold these records, as far as they go -/
def FillA {α : Type} (z : Nat) (f : α → List Value) (X : List Value) (es : List α) : Prop := ∀ j (h : j < es.length) c u, (f es[j])[c]? = some u → X[j * z + c]? = some u
theorem FillA.nil {α : Type} (z : Nat) (f : α → List Value) (X : List Value) : FillA z f X [] := fun j h => by simp at h
theorem FillA.more {α : Type} {z : Nat} {f : α → List Value} {X Y : List Value} {es : List α} (h : FillA z f X es) (hf : ∀ e ∈ es, (f e).length ≤ z) (e : α) (hold : ∀ i, i < es.length * z → Y[i]? = X[i]?) (hnew : ∀ c u, (f e)[c]? = some u → Y[es.length * z + c]? = some u) : FillA z f Y (es ++ [e]) := fun j hj c u hu => by
  by_cases hlt : j < es.length
  · rw [List.getElem_append_left hlt] at hu
    have hc : c < z := Nat.lt_of_lt_of_le (List.getElem?_eq_some_iff.1 hu).1 (hf _ (List.getElem_mem hlt))
    rw [hold (j * z + c) (by
      have : (j + 1) * z ≤ es.length * z := Nat.mul_le_mul_right z hlt
      rw [Nat.add_mul] at this
      omega)]
    exact h j hlt c u hu
  · have hje : j = es.length := by simp at hj; omega
    subst hje
    simp only [List.getElem_concat_length] at hu
    exact hnew c u hu
theorem FillA.row {α : Type} {z T B g cap : Nat} {f : α → List Value} {X : List Value} {es : List α} {w : World} (h : FillA z f X es) (ho : w.ownsRow B T z (.slice (some ⟨g, 0, none⟩) es.length cap) es.length X) : RowA z f w (.slice (some ⟨g, 0, none⟩) es.length cap) es := by
  refine .inr ⟨g, 0, cap, rfl, (ho.lt g rfl).2, fun j hj c u hu => ?_⟩
  have := h j hj c u hu
  rw [Nat.zero_add, ho.cellAt (j * z + c) (by have h1 := (List.getElem?_eq_some_iff.1 this).1; have h2 := ho.1; omega)]
  exact this
theorem rowKeptA {w w' : World} {B e z : Nat} {v : Value} {n : Nat} {xs : List Value} (h : w.ownsRow B e z v n xs) (hb : Below w.heap.size w w') : w'.ownsRow B e z v n xs := by
  refine ⟨h.1, ?_⟩
  rcases h.2 with e | ⟨g, c, cur, e1, e2, e3, e4⟩
  · exact .inl e
  · refine .inr ⟨g, c, cur, e1, e2, ?_, e4⟩
    rw [hb.block g (by
      have := h.lt g (by rw [e1]; rfl)
      exact this.2)]
    exact e3
theorem newA {w : World} {cs : Array Value} {t : TypeId} {b : Nat} (i : Nat) (h : b = w.heap.size) : (w.alloc (.cells cs t)).cell? ⟨b, i, none⟩ = cs[i]? := by
  subst h
  simp
theorem oldA {w : World} {o : Obj} {b : Nat} (i : Nat) (h : b < w.heap.size) : (w.alloc o).cell? ⟨b, i, none⟩ = w.cell? ⟨b, i, none⟩ := ((Below.refl w.heap.size w).alloc (Nat.le_refl _) o).cell (p := ⟨b, i, none⟩) h

end Go.Proofs.YtllbfbllkefjeaaGreatDoor

namespace Go.Proofs.YtllbfbllkefjeaaGreatDoor
open Go.RowKit

/-- records, one behind the other -/
def flatA {α : Type} (f : α → List Value) (es : List α) : List Value := es.flatMap f
theorem flatA_length {α : Type} {f : α → List Value} {z : Nat} (hz : ∀ e, (f e).length = z) (es : List α) : (flatA f es).length = es.length * z := by
  induction es with
  | nil => simp [flatA]
  | cons e r ih =>
    have : flatA f (e :: r) = f e ++ flatA f r := rfl
    rw [this, List.length_append, ih, hz, List.length_cons, Nat.add_mul]
    omega
theorem flatA_at {α : Type} {f : α → List Value} {z : Nat} (hz : ∀ e, (f e).length = z) (es : List α) (j : Nat) (h : j < es.length) (c : Nat) (hc : c < z) : (flatA f es)[j * z + c]? = (f es[j])[c]? := by
  induction es generalizing j with
  | nil => simp at h
  | cons e r ih =>
    have h1 : flatA f (e :: r) = f e ++ flatA f r := rfl
    rw [h1]
    cases j with
    | zero =>
      rw [Nat.zero_mul, Nat.zero_add, List.getElem?_append_left (by rw [hz]; exact hc)]
      rfl
    | succ j =>
      have h2 : (j + 1) * z + c = z + (j * z + c) := by rw [Nat.add_mul]; omega
      rw [h2, List.getElem?_append_right (by rw [hz]; omega), hz, Nat.add_sub_cancel_left]
      exact ih j (by simpa using h)
theorem flatA_app {α : Type} (f : α → List Value) (a b : List α) : flatA f (a ++ b) = flatA f a ++ flatA f b := by simp [flatA]
theorem flatA_fill {α : Type} {f : α → List Value} {z : Nat} (hz : ∀ e, (f e).length = z) (es : List α) : FillA z f (flatA f es) es := fun j hj c u hu => by
  have hc := (List.getElem?_eq_some_iff.1 hu).1
  rw [hz] at hc
  rw [flatA_at hz es j hj c hc]
  exact hu
/-- a row of one's own, read as records -/
theorem ownA {α : Type} {f : α → List Value} {z T B : Nat} {w : World} {v : Value} {es : List α} (hz : ∀ e, (f e).length = z) (ho : w.ownsRow B T z v es.length (flatA f es)) : RowA z f w v es := by
  rcases ho.2 with ⟨e, h0⟩ | ⟨g, cap, cur, e, _⟩
  · exact .inl ⟨List.length_eq_zero_iff.1 h0, none, 0, e⟩
  · have e' : v = .slice (some ⟨g, 0, none⟩) es.length cap := e
    subst e'
    exact (flatA_fill hz es).row ho
/-- the cells of a slice of records -/
theorem rowA_cells {α : Type} {f : α → List Value} {z : Nat} {w : World} {v : Value} {es : List α} (hz : ∀ e, (f e).length = z) (h : RowA z f w v es) : ∃ av capv, v = .slice av es.length capv ∧ (0 < es.length → ∃ b off, av = some ⟨b, off, none⟩ ∧ b < w.heap.size ∧ ∀ j u, (flatA f es)[j]? = some u → w.cell? ⟨b, off + j, none⟩ = some u) := by
  rcases h with ⟨h, a, cap, e⟩ | ⟨b, off, cap, e, hl, hc⟩
  · exact ⟨a, cap, by rw [h]; exact e, fun h0 => by rw [h] at h0; simp at h0⟩
  · refine ⟨_, cap, e, fun h0 => ⟨b, off, rfl, hl, fun j u hu => ?_⟩⟩
    have hj := (List.getElem?_eq_some_iff.1 hu).1
    rw [flatA_length hz] at hj
    have hz0 : 0 < z := by
      rcases Nat.eq_zero_or_pos z with h | h
      · rw [h] at hj; simp at hj
      · exact h
    have hq : j / z < es.length := Nat.div_lt_of_lt_mul (by rw [Nat.mul_comm]; exact hj)
    have hr : j % z < z := Nat.mod_lt _ hz0
    have hjj : j = j / z * z + j % z := by rw [Nat.mul_comm]; exact (Nat.div_add_mod j z).symm
    rw [hjj] at hu
    rw [flatA_at hz es _ hq _ hr] at hu
    have := hc _ hq _ u hu
    rw [hjj, ← Nat.add_assoc]
    exact this
theorem flatA_one {α : Type} {f : α → List Value} (h1 : ∀ e, ∀ u ∈ f e, u.oneCell' = true) (es : List α) : ∀ u ∈ flatA f es, u.oneCell' = true := fun u hu => by
  simp only [flatA, List.mem_flatMap] at hu
  obtain ⟨e, _, h⟩ := hu
  exact h1 e u h

/-- a row -/
structure RowS where
  T : TypeId
  z : Nat
  v : Value
  n : Nat
  xs : List Value
/-- a box: its block, its cells, its type -/
abbrev BoxS := Nat × Array Value × TypeId
structure GMem (w Y : World) (bx : List BoxS) (rs : List RowS) : Prop where
  bel : Below w.heap.size w Y
  box : ∀ e ∈ bx, Y.heap[e.1]? = some (.cells e.2.1 e.2.2 (0, 0))
  row : ∀ r ∈ rs, Y.ownsRow w.heap.size r.T r.z r.v r.n r.xs
  dif : rs.Pairwise fun r s => r.v.ownBlock = none ∨ r.v.ownBlock ≠ s.v.ownBlock
  apa : ∀ e ∈ bx, ∀ r ∈ rs, r.v.ownBlock ≠ some e.1
theorem GMem.below {w Y Z : World} {bx : List BoxS} {rs : List RowS} (h : GMem w Y bx rs) (hb : Below Y.heap.size Y Z) : GMem w Z bx rs :=
  ⟨h.bel.trans (hb.mono h.bel.size), fun e he => (hb.block e.1 (Array.getElem?_eq_some_iff.1 (h.box e he)).1).trans (h.box e he), fun r hr => rowKeptA (h.row r hr) hb, h.dif, h.apa⟩
/-- one more box -/
theorem GMem.addBox {w Y : World} {bx : List BoxS} {rs : List RowS} (h : GMem w Y bx rs) (cs : Array Value) (t : TypeId) : GMem w (Y.alloc (.cells cs t)) ((Y.heap.size, cs, t) :: bx) rs := by
  have hA : Below Y.heap.size Y (Y.alloc (.cells cs t)) := (Below.refl _ _).alloc (Nat.le_refl _) _
  have h2 := h.below hA
  refine ⟨h2.bel, fun e he => ?_, h2.row, h.dif, fun e he r hr hv => ?_⟩
  · rcases List.mem_cons.1 he with rfl | he
    · exact (MapKept.heap_alloc Y _).1
    · exact h2.box e he
  · rcases List.mem_cons.1 he with rfl | he
    · have := ((h.row r hr).lt _ hv).2
      exact Nat.lt_irrefl _ this
    · exact h.apa e he r hr hv
/-- more rows, in new memory, no two in one block -/
theorem GMem.addRows {w Y Z : World} {bx : List BoxS} {rs : List RowS} (h : GMem w Y bx rs) (hb : Below Y.heap.size Y Z) (new : List RowS) (ho : ∀ r ∈ new, Z.ownsRow Y.heap.size r.T r.z r.v r.n r.xs) (hd : new.Pairwise fun r s => r.v.ownBlock = none ∨ r.v.ownBlock ≠ s.v.ownBlock) : GMem w Z bx (new ++ rs) := by
  have h2 := h.below hb
  refine ⟨h2.bel, h2.box, fun r hr => ?_, List.pairwise_append.2 ⟨hd, h.dif, fun r hr s hs => ?_⟩, fun e he r hr hv => ?_⟩
  · rcases List.mem_append.1 hr with hr | hr
    · exact ⟨(ho r hr).1, (ho r hr).2.imp id fun ⟨g, c, cur, e1, e2, e3⟩ => ⟨g, c, cur, e1, Nat.le_trans h.bel.size e2, e3⟩⟩
    · exact h2.row r hr
  · cases hv : r.v.ownBlock with
    | none => exact .inl rfl
    | some g =>
      refine .inr fun e => ?_
      have h3 := ((ho r hr).lt g hv).1
      have h4 := ((h.row s hs).lt g e.symm).2
      omega
  · rcases List.mem_append.1 hr with hr | hr
    · have h3 := ((ho r hr).lt _ hv).1
      have h4 := (Array.getElem?_eq_some_iff.1 (h.box e he)).1
      omega
    · exact h.apa e he r hr hv
/-- one of the rows turned, and no other block -/
theorem GMem.mark {w Y Z : World} {bx : List BoxS} {l1 l2 : List RowS} {r : RowS} (h : GMem w Y bx (l1 ++ r :: l2)) (xs' : List Value) (hg : Y.grownBy Z r.v.ownBlock) (ho : Z.ownsRow w.heap.size r.T r.z r.v r.n xs') : GMem w Z bx (l1 ++ ⟨r.T, r.z, r.v, r.n, xs'⟩ :: l2) := by
  have hme : r ∈ l1 ++ r :: l2 := by simp
  have hin : ∀ e, e ∈ l1 ++ (⟨r.T, r.z, r.v, r.n, xs'⟩ : RowS) :: l2 → e = ⟨r.T, r.z, r.v, r.n, xs'⟩ ∨ (e ∈ l1 ++ r :: l2 ∧ (e.v.ownBlock = none ∨ e.v.ownBlock ≠ r.v.ownBlock)) := fun e he => by
    have hd := List.pairwise_append.1 h.dif
    have hd2 := List.pairwise_cons.1 hd.2.1
    rcases List.mem_append.1 he with he | he
    · exact .inr ⟨List.mem_append_left _ he, hd.2.2 e he _ (List.mem_cons_self ..)⟩
    · rcases List.mem_cons.1 he with he | he
      · exact .inl he
      · refine .inr ⟨List.mem_append_right _ (List.mem_cons_of_mem _ he), ?_⟩
        rcases hd2.1 e he with h0 | h0
        · cases hq : e.v.ownBlock with
          | none => exact .inl rfl
          | some g => exact .inr (by rw [h0]; simp)
        · exact .inr fun e' => h0 e'.symm
  refine ⟨?_, fun e he => ?_, fun e he => ?_, ?_, fun e he s hs => ?_⟩
  · refine ⟨hg.os.trans h.bel.os, hg.tape.trans h.bel.tape, hg.output.trans h.bel.output, Nat.le_trans h.bel.size hg.size, fun c hc => ?_⟩
    rw [hg.block c (Nat.lt_of_lt_of_le hc h.bel.size) fun e => by
      have := ((h.row r hme).lt c e.symm).1
      omega]
    exact h.bel.block c hc
  · have hb := h.box e he
    rw [hg.block e.1 (Array.getElem?_eq_some_iff.1 hb).1 fun q => h.apa e he r hme q.symm]
    exact hb
  · rcases hin e he with rfl | ⟨h1, h2⟩
    · exact ho
    · exact (h.row e h1).kept hg h2
  · have := h.dif
    rw [List.pairwise_append, List.pairwise_cons] at this ⊢
    refine ⟨this.1, ⟨fun f hf => this.2.1.1 f hf, this.2.1.2⟩, fun a ha f hf => ?_⟩
    rcases List.mem_cons.1 hf with rfl | hf
    · exact this.2.2 a ha r (List.mem_cons_self ..)
    · exact this.2.2 a ha f (List.mem_cons_of_mem _ hf)
  · rcases hin s hs with rfl | ⟨h1, _⟩
    · exact h.apa e he r hme
    · exact h.apa e he s h1
theorem gmemBase {w : World} : GMem w w [] [] := ⟨Below.refl _ _, fun _ h => (List.not_mem_nil h).elim, fun _ h => (List.not_mem_nil h).elim, List.Pairwise.nil, fun _ h => (List.not_mem_nil h).elim⟩
theorem GMem.cell {w Y : World} {bx : List BoxS} {rs : List RowS} (h : GMem w Y bx rs) {b : Nat} {cs : Array Value} {t : TypeId} (he : (b, cs, t) ∈ bx) (i : Nat) : Y.cell? ⟨b, i, none⟩ = cs[i]? := cell_of_row _ _ i _ _ (0, 0) (h.box _ he)

/-- a world grown in one block goes on -/
theorem grown_stepG {w w1 w2 : World} {o : Option Nat} (h : w.grownBy w1 o) (hb : Below w1.heap.size w1 w2) : w.grownBy w2 o :=
  ⟨hb.os.trans h.os, hb.tape.trans h.tape, hb.output.trans h.output, Nat.le_trans h.size hb.size, fun k hk hne => (hb.block k (Nat.lt_of_lt_of_le hk h.size)).trans (h.block k hk hne)⟩
theorem grown_setG {w w1 : World} {g i : Nat} {u : Value} (h : w.grownBy w1 (some g)) : w.grownBy (w1.setCell ⟨g, i, none⟩ u) (some g) := by
  refine ⟨?_, ?_, ?_, by simpa using h.size, fun k hk hne => ?_⟩
  · rw [← h.os]; unfold World.setCell; split <;> rfl
  · rw [← h.tape]; unfold World.setCell; split <;> rfl
  · rw [← h.output]; unfold World.setCell; split <;> rfl
  · rw [Below.heap_setCell _ _ _ _ (fun e => hne (by rw [e]))]
    exact h.block k hk hne
theorem grown_reflG (w : World) (o : Option Nat) : w.grownBy w o := ⟨rfl, rfl, rfl, Nat.le_refl _, fun _ _ _ => rfl⟩

/-- the ten cells of a box -/
def TenR (w : World) (b : Nat) (x0 x1 x2 x3 x4 x5 x6 x7 x8 x9 : Value) : Prop :=
  w.cell? ⟨b, 0, none⟩ = some x0 ∧ w.cell? ⟨b, 1, none⟩ = some x1 ∧ w.cell? ⟨b, 2, none⟩ = some x2 ∧ w.cell? ⟨b, 3, none⟩ = some x3 ∧ w.cell? ⟨b, 4, none⟩ = some x4 ∧ w.cell? ⟨b, 5, none⟩ = some x5 ∧ w.cell? ⟨b, 6, none⟩ = some x6 ∧ w.cell? ⟨b, 7, none⟩ = some x7 ∧ w.cell? ⟨b, 8, none⟩ = some x8 ∧ w.cell? ⟨b, 9, none⟩ = some x9
theorem tenR_of {X : World} {b : Nat} {x0 x1 x2 x3 x4 x5 x6 x7 x8 x9 : Value} {t : TypeId} (hr : X.heap[b]? = some (.cells #[x0, x1, x2, x3, x4, x5, x6, x7, x8, x9] t (0, 0))) : TenR X b x0 x1 x2 x3 x4 x5 x6 x7 x8 x9 := by
  refine ⟨?_, ?_, ?_, ?_, ?_, ?_, ?_, ?_, ?_, ?_⟩
  · rw [cell_of_row _ _ 0 _ _ (0, 0) hr]; rfl
  · rw [cell_of_row _ _ 1 _ _ (0, 0) hr]; rfl
  · rw [cell_of_row _ _ 2 _ _ (0, 0) hr]; rfl
  · rw [cell_of_row _ _ 3 _ _ (0, 0) hr]; rfl
  · rw [cell_of_row _ _ 4 _ _ (0, 0) hr]; rfl
  · rw [cell_of_row _ _ 5 _ _ (0, 0) hr]; rfl
  · rw [cell_of_row _ _ 6 _ _ (0, 0) hr]; rfl
  · rw [cell_of_row _ _ 7 _ _ (0, 0) hr]; rfl
  · rw [cell_of_row _ _ 8 _ _ (0, 0) hr]; rfl
  · rw [cell_of_row _ _ 9 _ _ (0, 0) hr]; rfl

end Go.Proofs.YtllbfbllkefjeaaGreatDoor

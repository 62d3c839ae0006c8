/-
  The walks of impl.newBook and of its find.
-/
import Derived.Test.YtbocopkhecddlaaSMap
import Derived.Test.YtbocopkhecddlaaRcP
import Derived.Test.YtbocopkhecddlaaToTy
import Derived.Test.YtbocopkhecddlaaTyH
import Derived.Test.YtbocopkhecddlaaStepA
namespace Go.Proofs.Ytbocopkhecddlaa
open Go.RowKit

/-- the map of a book: at each name where the first of it stands -/
def BookD (es : List (ByteArray × Ty)) (k : Nat) (D : List (ByteArray × Value)) : Prop := ∀ s, (∀ j, j < k → First es s j → lookD D s = some (.int .i64 j)) ∧ ((∀ j (h : j < es.length), j < k → es[j].1 ≠ s) → lookD D s = none)
theorem first_below {es : List (ByteArray × Ty)} {s : ByteArray} {k : Nat} (hk : k ≤ es.length) : (∃ j, j < k ∧ First es s j) ∨ ∀ j (h : j < es.length), j < k → es[j].1 ≠ s := by
  induction k with
  | zero => exact .inr fun j _ h => absurd h (by omega)
  | succ k ih =>
    rcases ih (by omega) with ⟨j, hj, hf⟩ | hn
    · exact .inl ⟨j, by omega, hf⟩
    · by_cases c : (es[k]'(by omega)).1 = s
      · exact .inl ⟨k, by omega, by omega, c, fun i hi => hn i (by omega) hi⟩
      · refine .inr fun j h hj => ?_
        by_cases e : j = k
        · subst e; exact c
        · exact hn j h (by omega)
theorem BookD.zero (es : List (ByteArray × Ty)) : BookD es 0 [] := fun s => ⟨fun j hj => absurd hj (by omega), fun _ => rfl⟩
theorem BookD.skip {es : List (ByteArray × Ty)} {k : Nat} {D : List (ByteArray × Value)} (h : BookD es k D) (hk : k < es.length) (hs : lookD D es[k].1 ≠ none) : BookD es (k + 1) D := fun s => by
  have hold : ∃ i, i < k ∧ First es es[k].1 i := by
    rcases first_below (es := es) (s := es[k].1) (k := k) (by omega) with q | q
    · exact q
    · exact absurd ((h es[k].1).2 q) hs
  obtain ⟨i, hi, hf⟩ := hold
  refine ⟨fun j hj hfj => ?_, fun hn => (h s).2 fun j hl hj => hn j hl (by omega)⟩
  by_cases c : j = k
  · subst c
    obtain ⟨hj1, hj2, hj3⟩ := hfj
    subst hj2
    have := hf.one ⟨hj1, rfl, hj3⟩
    omega
  · exact (h s).1 j (by omega) hfj
theorem BookD.put {es : List (ByteArray × Ty)} {k : Nat} {D : List (ByteArray × Value)} (h : BookD es k D) (hk : k < es.length) (hs : lookD D es[k].1 = none) : BookD es (k + 1) (D ++ [(es[k].1, .int .i64 k)]) := fun s => by
  have hno : ∀ j (hl : j < es.length), j < k → es[j].1 ≠ es[k].1 := by
    rcases first_below (es := es) (s := es[k].1) (k := k) (by omega) with ⟨i, hi, hf⟩ | q
    · rw [(h es[k].1).1 i hi hf] at hs; cases hs
    · exact q
  rw [lookD_app]
  refine ⟨fun j hj hfj => ?_, fun hn => ?_⟩
  · by_cases c : j = k
    · subst c
      obtain ⟨hj1, hj2, hj3⟩ := hfj
      subst hj2
      rw [hs]
      show (none : Option Value).or (if es[j].1 = es[j].1 then some (Value.int .i64 j) else none) = _
      rw [if_pos rfl]
      rfl
    · rw [(h s).1 j (by omega) hfj]; rfl
  · rw [(h s).2 fun j hl hj => hn j hl (by omega)]
    show (none : Option Value).or (if es[k].1 = s then some (Value.int .i64 k) else none) = _
    rw [if_neg (hn k hk (by omega))]
    rfl

theorem block2B {W : World} {b : Nat} {x0 x1 : Value} (h : W.heap[b]? = some (.cells #[x0, x1] 55 (0, 0))) : (W.cell? ⟨b, 0, none⟩ = some x0 ∧ W.cell? ⟨b, 1, none⟩ = some x1) ∧ ∀ j, W.frozen? ⟨b, j, none⟩ = false := by
  refine ⟨⟨?_, ?_⟩, fun j => frozen_of_row W b j _ _ h⟩
  · rw [cell_of_row W b 0 _ _ (0, 0) h]; rfl
  · rw [cell_of_row W b 1 _ _ (0, 0) h]; rfl

theorem put_book {w0 : World} {b : Nat} {z0 z1 x0 x1 : Value} (h : w0.heap[b]? = some (.cells #[z0, z1] 55 (0, 0))) : ((w0.setCell ⟨b, 0, none⟩ x0).setCell ⟨b, 1, none⟩ x1).heap[b]? = some (.cells #[x0, x1] 55 (0, 0)) :=
  heap_setCell_same _ b 1 _ _ x1 (heap_setCell_same w0 b 0 _ _ x0 h)
theorem ret_book {R : Ending → World → Prop} {W : World} {tmps : Array Value} {b : Nat} {x0 x1 : Value} (hp : tmps[2]?.getD undef = .pointer (some ⟨b, 0, none⟩))
    (h : W.cell? ⟨b, 0, none⟩ = some x0 ∧ W.cell? ⟨b, 1, none⟩ = some x1) (hR : R (.returned (.agg #[x0, x1])) W) :
    bodyPost Try.prog Try.f23 R .ret { tmps := tmps, defers := [] } W := by
  obtain ⟨h0, h1⟩ := h
  refine bodyPost_ret (v := .agg #[x0, x1]) ?_ rfl hR
  simp [results, Try.results23, go_sem, hp, h0, h1]

/-- what stands at a name of the map, found or not -/
theorem lookBk {W : World} {M : Nat} {D : List (ByteArray × Value)} (hM : SMap W M D) (s : ByteArray) (z : Value) (h : lookD D s = some z) : Sem.run Try.prog (Instr.lookup 53 (.map (some M)) (.string s) true) W = .ok (.tuple #[z, .bool true]) W := by
  have := run_lookup_text (P := Try.prog) (T := 53) (k := 9) (e := 3) (z := .int .i64 0) Try.underlying53 Try.underlying9 (by kernel_rfl) hM s true
  rw [h] at this
  exact this
theorem lookBkNo {W : World} {M : Nat} {D : List (ByteArray × Value)} (hM : SMap W M D) (s : ByteArray) (h : lookD D s = none) : Sem.run Try.prog (Instr.lookup 53 (.map (some M)) (.string s) true) W = .ok (.tuple #[.int .i64 0, .bool false]) W := by
  have := run_lookup_text (P := Try.prog) (T := 53) (k := 9) (e := 3) (z := .int .i64 0) Try.underlying53 Try.underlying9 (by kernel_rfl) hM s true
  rw [h] at this
  exact this

set_option maxHeartbeats 1600000 in
set_option maxRecDepth 100000 in
theorem implNewBook (n : Nat) (v : Value) (es : List (ByteArray × Ty)) (w : World) (hrow : EnvAt w n v es) (hlen : es.length ≤ 1048576) :
    Calls Try.prog 23 #[v] w fun e w' => ∃ (M : Nat) (D : List (ByteArray × Value)), e = .returned (.agg #[v, .map (some M)]) ∧ SMap w' M D ∧ BookD es es.length D ∧ w.heap.size ≤ M ∧ Below w.heap.size w w' := by
  obtain ⟨av, capv, rfl, hel⟩ := envOpen hrow
  have HEL : Hid (type_of% hel) := hel
  have hmm := @run_makeMap Try.prog
  clear hel hrow
  go_enter Try.func23, Try.ntmps23
  go_wp2_with fail
  go_loopw [13] (fun i wr => ∃ (k : Nat) (D : List (ByteArray × Value)), k ≤ es.length ∧ i = .int .i64 k ∧ BookD es k D ∧ SMap wr (w.heap.size + 1) D ∧ wr.heap[w.heap.size]? = some (.cells #[.slice none 0 0, .map none] 55 (0, 0)) ∧ wr.heap[w.heap.size + 1 + 1]? = some (.cells #[.slice av es.length capv, .map (some (w.heap.size + 1))] 55 (0, 0)) ∧ Below w.heap.size w wr) (fun i _ => es.length - (intOf i).toNat)
  case atStart =>
    refine ⟨0, [], Nat.zero_le _, rfl, BookD.zero es, SMap.made ?_, ?_, ?_, ?_⟩
    · exact ((MapKept.heap_alloc _ _).2 _ (by simp)).trans (heap_second w _ _)
    · exact ((MapKept.heap_alloc _ _).2 _ (by simp; omega)).trans (heap_first w _ _)
    · have := (MapKept.heap_alloc ((w.alloc (.cells #[.slice none 0 0, .map none] 55)).alloc (.map #[] 0)) (.cells #[.slice av es.length capv, .map (some (w.heap.size + 1))] 55)).1
      simpa using this
    · exact (((Below.refl _ _).alloc (Nat.le_refl _) _).alloc (by simp) _).alloc (by simp; omega) _
  case round =>
    obtain ⟨k, D, hk, rfl, hD, hS, h1, h3, hbe⟩ := hrel
    by_cases hlt : k < es.length
    · obtain ⟨b, off, x0, x1, x2, x3, rfl, hbl, hsz, hty, q0, q1, q2, q3, q4⟩ := HEL.out k hlt
      obtain ⟨an2, ln2, cn2, ak2, lk2, ck2, ee⟩ := hty.shape
      simp only [List.cons.injEq, and_true] at ee
      obtain ⟨rfl, rfl, rfl, rfl⟩ := ee
      have c0 := (hbe.cell (p := ⟨b, off + k * 5, none⟩) hbl).trans q0
      have c1 := (hbe.cell (p := ⟨b, off + k * 5 + 1, none⟩) hbl).trans q1
      have c2 := (hbe.cell (p := ⟨b, off + k * 5 + 2, none⟩) hbl).trans q2
      have c3 := (hbe.cell (p := ⟨b, off + k * 5 + 3, none⟩) hbl).trans q3
      have c4 := (hbe.cell (p := ⟨b, off + k * 5 + 4, none⟩) hbl).trans q4
      have hk0i : (0 : Int) ≤ (k : Int) := by omega
      have hk1i : (k : Int) < (es.length : Int) := by omega
      have h3l : w.heap.size + 1 + 1 < wr.heap.size := (Array.getElem?_eq_some_iff.1 h3).1
      obtain ⟨X, hX⟩ : ∃ X, X = wr.alloc (.cells #[.string es[k].1, .int .i64 es[k].2.kind, .string es[k].2.name, .slice an2 ln2 cn2, .slice ak2 lk2 ck2] 50) := ⟨_, rfl⟩
      have hXo : ∀ j, j < wr.heap.size → X.heap[j]? = wr.heap[j]? := fun j hj => by rw [hX]; exact (MapKept.heap_alloc wr _).2 j hj
      have hSX : SMap X (w.heap.size + 1) D := hS.same (hXo _ (by omega))
      have h1X := (hXo w.heap.size (by omega)).trans h1
      have h3X := (hXo (w.heap.size + 1 + 1) h3l).trans h3
      have hbX : Below w.heap.size w X := by rw [hX]; exact hbe.alloc hbe.size _
      have n0 : X.cell? ⟨wr.heap.size, 0, none⟩ = some (.string es[k].1) := by rw [hX, cellNew _ rfl]; rfl
      obtain ⟨⟨b0, b1⟩, _⟩ := block2B h3X
      by_cases hs : lookD D es[k].1 = none
      · have HD2 : Hid (type_of% (hD.put hlt hs)) := hD.put hlt hs
        have hlk := lookBkNo hSX es[k].1 hs
        obtain ⟨w3, hrun0, hS3, hbut⟩ := run_update_text (P := Try.prog) (T := 53) (k := 9) (e := 3) Try.underlying53 Try.underlying9 hSX es[k].1 hs (.int .i64 k)
        have HS3 : Hid (type_of% hS3) := hS3
        have R1 := (hbut.2.2.2.2 w.heap.size (by omega)).trans h1X
        have R3 := (hbut.2.2.2.2 (w.heap.size + 1 + 1) (by omega)).trans h3X
        have RB := hbX.trans (hbut.below (by omega))
        have HEND : Hid (SMap w3 (w.heap.size + 1) (D ++ [(es[k].1, .int .i64 k)]) ∧ (w3.heap[w.heap.size]? = some (.cells #[.slice none 0 0, .map none] 55 (0, 0)) ∧ w3.heap[w.heap.size + 1 + 1]? = some (.cells #[.slice (some ⟨b, off, none⟩) es.length capv, .map (some (w.heap.size + 1))] 55 (0, 0)) ∧ Below w.heap.size w w3)) := ⟨hS3, R1, R3, RB⟩
        clear q0 q1 q2 q3 q4 hty hsz hs hD HEL hS3 hbut R1 R3 RB hbX h1X h3X hSX hXo h1 h3 hS HS3 hbe
        generalize es[k].1 = x at *
        generalize es[k].2.kind = kd at *
        generalize es[k].2.name = tn at *
        subst hX
        go_wp2_with fail
        go_roundw
        case rel =>
          obtain ⟨r1, r2, r3, r4⟩ := HEND.out
          exact ⟨k + 1, _, by omega, by go_num, HD2.out, r1, r2, r3, r4⟩
        case measure => simp [intOf]; omega
      · have HD2 : Hid (type_of% (hD.skip hlt hs)) := hD.skip hlt hs
        obtain ⟨z, hz⟩ : ∃ z, lookD D es[k].1 = some z := Option.ne_none_iff_exists'.1 hs
        have hlk := lookBk hSX es[k].1 z hz
        have HEND : Hid (SMap X (w.heap.size + 1) D ∧ (X.heap[w.heap.size]? = some (.cells #[.slice none 0 0, .map none] 55 (0, 0)) ∧ X.heap[w.heap.size + 1 + 1]? = some (.cells #[.slice (some ⟨b, off, none⟩) es.length capv, .map (some (w.heap.size + 1))] 55 (0, 0)) ∧ Below w.heap.size w X)) := ⟨hSX, h1X, h3X, hbX⟩
        clear q0 q1 q2 q3 q4 hty hsz hs hD HEL hbX h1X h3X hSX hXo h1 h3 hS hbe hz
        generalize es[k].1 = x at *
        generalize es[k].2.kind = kd at *
        generalize es[k].2.name = tn at *
        subst hX
        go_wp2_with fail
        go_roundw
        case rel =>
          obtain ⟨r1, r2, r3, r4⟩ := HEND.out
          exact ⟨k + 1, _, by omega, by go_num, HD2.out, r1, r2, r3, r4⟩
        case measure => simp [intOf]; omega
    · obtain rfl : k = es.length := by omega
      obtain ⟨⟨b0, b1⟩, _⟩ := block2B h3
      obtain ⟨_, hfz⟩ := block2B h1
      have hw1 : w.heap.size < wr.heap.size := (Array.getElem?_eq_some_iff.1 h1).1
      have HEND : Hid (BookD es es.length D ∧ SMap wr (w.heap.size + 1) D ∧ Below w.heap.size w wr) := ⟨hD, hS, hbe⟩
      have hP := put_book h1 (x0 := .slice av es.length capv) (x1 := .map (some (w.heap.size + 1)))
      clear HEL hD hS hbe h3
      go_wp2_with fail
      obtain ⟨r1, r2, r3⟩ := HEND.out
      refine ret_book rfl (block2B hP).1 ⟨w.heap.size + 1, D, rfl, r2.same ?_, r1, by omega, (r3.setCell (Nat.le_refl _) _).setCell (Nat.le_refl _) _⟩
      rw [Below.heap_setCell _ _ _ _ (by simp), Below.heap_setCell _ _ _ _ (by simp)]

end Go.Proofs.Ytbocopkhecddlaa

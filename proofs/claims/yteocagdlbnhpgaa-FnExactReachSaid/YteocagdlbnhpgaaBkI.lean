/-
  The walks of impl.firstPlaces at names and types and of impl.newBook.
-/
import Derived.Test.YteocagdlbnhpgaaSMap
import Derived.Test.YteocagdlbnhpgaaNewI
import Derived.Test.YteocagdlbnhpgaaRcP
import Derived.Test.YteocagdlbnhpgaaToTy
import Derived.Test.YteocagdlbnhpgaaTyH
import Derived.Test.YteocagdlbnhpgaaStepA
namespace Go.Proofs.Yteocagdlbnhpgaa
open Go.RowKit

/-- the map of a book: at each name where the first of it stands -/
def BookD (es : List (ByteArray × Ty)) (k : Nat) (D : List (ByteArray × Value)) : Prop := ∀ s, (∀ j, j < k → First es s j → lookD D s = some (.int .i64 j)) ∧ ((∀ j (h : j < es.length), j < k → es[j].1 ≠ s) → lookD D s = none)
theorem first_below {es : List (ByteArray × Ty)} {s : ByteArray} {k : Nat} (hk : k ≤ es.length) : (∃ j, j < k ∧ First es s j) ∨ ∀ j (h : j < es.length), j < k → es[j].1 ≠ s := by
  induction k with
  | zero => exact .inr fun j _ h => absurd h (by omega)
  | succ k ih =>
    rcases ih (by omega) with ⟨j, hj, hf⟩ | hn
    · exact .inl ⟨j, by omega, hf⟩
    · by_cases c : (es[k]'(by omega)).1 = s
      · exact .inl ⟨k, by omega, by omega, c, fun i hi => hn i (by omega) hi⟩
      · refine .inr fun j h hj => ?_
        by_cases e : j = k
        · subst e; exact c
        · exact hn j h (by omega)
theorem BookD.zero (es : List (ByteArray × Ty)) : BookD es 0 [] := fun s => ⟨fun j hj => absurd hj (by omega), fun _ => rfl⟩
theorem BookD.skip {es : List (ByteArray × Ty)} {k : Nat} {D : List (ByteArray × Value)} (h : BookD es k D) (hk : k < es.length) (hs : lookD D es[k].1 ≠ none) : BookD es (k + 1) D := fun s => by
  have hold : ∃ i, i < k ∧ First es es[k].1 i := by
    rcases first_below (es := es) (s := es[k].1) (k := k) (by omega) with q | q
    · exact q
    · exact absurd ((h es[k].1).2 q) hs
  obtain ⟨i, hi, hf⟩ := hold
  refine ⟨fun j hj hfj => ?_, fun hn => (h s).2 fun j hl hj => hn j hl (by omega)⟩
  by_cases c : j = k
  · subst c
    obtain ⟨hj1, hj2, hj3⟩ := hfj
    subst hj2
    have := hf.one ⟨hj1, rfl, hj3⟩
    omega
  · exact (h s).1 j (by omega) hfj
theorem BookD.put {es : List (ByteArray × Ty)} {k : Nat} {D : List (ByteArray × Value)} (h : BookD es k D) (hk : k < es.length) (hs : lookD D es[k].1 = none) : BookD es (k + 1) (D ++ [(es[k].1, .int .i64 k)]) := fun s => by
  have hno : ∀ j (hl : j < es.length), j < k → es[j].1 ≠ es[k].1 := by
    rcases first_below (es := es) (s := es[k].1) (k := k) (by omega) with ⟨i, hi, hf⟩ | q
    · rw [(h es[k].1).1 i hi hf] at hs; cases hs
    · exact q
  rw [lookD_app]
  refine ⟨fun j hj hfj => ?_, fun hn => ?_⟩
  · by_cases c : j = k
    · subst c
      obtain ⟨hj1, hj2, hj3⟩ := hfj
      subst hj2
      rw [hs]
      show (none : Option Value).or (if es[j].1 = es[j].1 then some (Value.int .i64 j) else none) = _
      rw [if_pos rfl]
      rfl
    · rw [(h s).1 j (by omega) hfj]; rfl
  · rw [(h s).2 fun j hl hj => hn j hl (by omega)]
    show (none : Option Value).or (if es[k].1 = s then some (Value.int .i64 k) else none) = _
    rw [if_neg (hn k hk (by omega))]
    rfl

theorem block3B {W : World} {b : Nat} {x0 x1 x2 : Value} (h : W.heap[b]? = some (.cells #[x0, x1, x2] 56 (0, 0))) : (W.cell? ⟨b, 0, none⟩ = some x0 ∧ W.cell? ⟨b, 1, none⟩ = some x1 ∧ W.cell? ⟨b, 2, none⟩ = some x2) ∧ ∀ j, W.frozen? ⟨b, j, none⟩ = false := by
  refine ⟨⟨?_, ?_, ?_⟩, fun j => frozen_of_row W b j _ _ h⟩
  · rw [cell_of_row W b 0 _ _ (0, 0) h]; rfl
  · rw [cell_of_row W b 1 _ _ (0, 0) h]; rfl
  · rw [cell_of_row W b 2 _ _ (0, 0) h]; rfl

theorem put_book {w0 : World} {b : Nat} {z0 z1 z2 x0 x1 x2 : Value} (h : w0.heap[b]? = some (.cells #[z0, z1, z2] 56 (0, 0))) : (((w0.setCell ⟨b, 0, none⟩ x0).setCell ⟨b, 1, none⟩ x1).setCell ⟨b, 2, none⟩ x2).heap[b]? = some (.cells #[x0, x1, x2] 56 (0, 0)) :=
  heap_setCell_same _ b 2 _ _ x2 (heap_setCell_same _ b 1 _ _ x1 (heap_setCell_same w0 b 0 _ _ x0 h))
theorem ret_book {R : Ending → World → Prop} {W : World} {tmps : Array Value} {b : Nat} {x0 x1 x2 : Value} (hp : tmps[2]?.getD undef = .pointer (some ⟨b, 0, none⟩))
    (h : W.cell? ⟨b, 0, none⟩ = some x0 ∧ W.cell? ⟨b, 1, none⟩ = some x1 ∧ W.cell? ⟨b, 2, none⟩ = some x2) (hR : R (.returned (.agg #[x0, x1, x2])) W) :
    bodyPost Try.prog Try.f23 R .ret { tmps := tmps, defers := [] } W := by
  obtain ⟨h0, h1, h2⟩ := h
  refine bodyPost_ret (v := .agg #[x0, x1, x2]) ?_ rfl hR
  simp [results, Try.results23, go_sem, hp, h0, h1, h2]

/-- what stands at a name of the map, found or not -/
theorem lookBk {W : World} {M : Nat} {D : List (ByteArray × Value)} (hM : SMap W M D) (s : ByteArray) (z : Value) (h : lookD D s = some z) : Sem.run Try.prog (Instr.lookup 53 (.map (some M)) (.string s) true) W = .ok (.tuple #[z, .bool true]) W := by
  have := run_lookup_text (P := Try.prog) (T := 53) (k := 9) (e := 3) (z := .int .i64 0) Try.underlying53 Try.underlying9 (by kernel_rfl) hM s true
  rw [h] at this
  exact this
theorem lookBkNo {W : World} {M : Nat} {D : List (ByteArray × Value)} (hM : SMap W M D) (s : ByteArray) (h : lookD D s = none) : Sem.run Try.prog (Instr.lookup 53 (.map (some M)) (.string s) true) W = .ok (.tuple #[.int .i64 0, .bool false]) W := by
  have := run_lookup_text (P := Try.prog) (T := 53) (k := 9) (e := 3) (z := .int .i64 0) Try.underlying53 Try.underlying9 (by kernel_rfl) hM s true
  rw [h] at this
  exact this

set_option maxHeartbeats 800000 in
set_option maxRecDepth 100000 in
theorem nameFn (x : ByteArray) (x0 x1 x2 x3 : Value) (w : World) :
    Calls Try.prog 43 #[.agg #[.string x, x0, x1, x2, x3]] w fun e w' => e = .returned (.string x) ∧ Below w.heap.size w w' := by
  have hB1 : Below w.heap.size w (w.alloc (.cells #[.string x, x0, x1, x2, x3] 50)) := (Below.refl _ _).alloc (Nat.le_refl _) _
  go_enter Try.func43, Try.ntmps43
  go_wp2_with fail
  go_ret
  exact ⟨rfl, hB1⟩

set_option maxHeartbeats 1600000 in
set_option maxRecDepth 100000 in
theorem implFirst (n : Nat) (v : Value) (es : List (ByteArray × Ty)) (w : World) (hrow : EnvAt w n v es) (hlen : es.length ≤ 1048576) :
    Calls Try.prog 42 #[v, .func (Fn.func 43) #[] #[]] w fun e w' => ∃ (M : Nat) (D : List (ByteArray × Value)), e = .returned (.map (some M)) ∧ SMap w' M D ∧ BookD es es.length D ∧ w.heap.size ≤ M ∧ Below w.heap.size w w' := by
  obtain ⟨av, capv, rfl, hel⟩ := envOpen hrow
  have HEL : Hid (type_of% hel) := hel
  have hmm := @run_makeMap Try.prog
  clear hel hrow
  go_enter Try.func42, Try.ntmps42
  go_wp2_with fail
  go_loopw [14] (fun i wr => ∃ (k : Nat) (D : List (ByteArray × Value)), k ≤ es.length ∧ i = .int .i64 k ∧ BookD es k D ∧ SMap wr w.heap.size D ∧ Below w.heap.size w wr) (fun i _ => es.length - (intOf i).toNat)
  case atStart =>
    refine ⟨0, [], Nat.zero_le _, rfl, BookD.zero es, SMap.made (MapKept.heap_alloc _ _).1, (Below.refl _ _).alloc (Nat.le_refl _) _⟩
  case round =>
    obtain ⟨k, D, hk, rfl, hD, hS, hbe⟩ := hrel
    by_cases hlt : k < es.length
    · obtain ⟨b, off, x0, x1, x2, x3, rfl, hbl, hsz, hty, q0, q1, q2, q3, q4⟩ := HEL.out k hlt
      obtain ⟨an2, ln2, cn2, ak2, lk2, ck2, ee⟩ := hty.shape
      simp only [List.cons.injEq, and_true] at ee
      obtain ⟨rfl, rfl, rfl, rfl⟩ := ee
      have c0 := (hbe.cell (p := ⟨b, off + k * 5, none⟩) hbl).trans q0
      have c1 := (hbe.cell (p := ⟨b, off + k * 5 + 1, none⟩) hbl).trans q1
      have c2 := (hbe.cell (p := ⟨b, off + k * 5 + 2, none⟩) hbl).trans q2
      have c3 := (hbe.cell (p := ⟨b, off + k * 5 + 3, none⟩) hbl).trans q3
      have c4 := (hbe.cell (p := ⟨b, off + k * 5 + 4, none⟩) hbl).trans q4
      have hk0i : (0 : Int) ≤ (k : Int) := by omega
      have hk1i : (k : Int) < (es.length : Int) := by omega
      have hA1 : Below wr.heap.size wr (wr.alloc (.cells #[.string es[k].1, .int .i64 es[k].2.kind, .string es[k].2.name, .slice an2 ln2 cn2, .slice ak2 lk2 ck2] 50)) := (Below.refl _ _).alloc (Nat.le_refl _) _
      have HF : Hid (type_of% (nameFn es[k].1 (.int .i64 es[k].2.kind) (.string es[k].2.name) (.slice an2 ln2 cn2) (.slice ak2 lk2 ck2) (wr.alloc (.cells #[.string es[k].1, .int .i64 es[k].2.kind, .string es[k].2.name, .slice an2 ln2 cn2, .slice ak2 lk2 ck2] 50)))) := nameFn es[k].1 (.int .i64 es[k].2.kind) (.string es[k].2.name) (.slice an2 ln2 cn2) (.slice ak2 lk2 ck2) (wr.alloc (.cells #[.string es[k].1, .int .i64 es[k].2.kind, .string es[k].2.name, .slice an2 ln2 cn2, .slice ak2 lk2 ck2] 50))
      have HD : Hid (type_of% hD) := hD
      have HPUT : Hid (lookD D es[k].1 = none → BookD es (k + 1) (D ++ [(es[k].1, .int .i64 k)])) := fun h => hD.put hlt h
      have HSKIP : Hid (lookD D es[k].1 ≠ none → BookD es (k + 1) D) := fun h => hD.skip hlt h
      clear q0 q1 q2 q3 q4 hty hsz hD HEL
      generalize es[k].1 = x at *
      generalize es[k].2.kind = kd at *
      generalize es[k].2.name = tn at *
      go_wp2_with fail
      refine HF.out.mono ?_
      rintro e w2 ⟨rfl, hb2⟩
      have hb12 : Below wr.heap.size wr w2 := hA1.trans (hb2.mono hA1.size)
      have hbw2 : Below w.heap.size w w2 := hbe.trans (hb12.mono hbe.size)
      have hS2 : SMap w2 w.heap.size D := hS.same (hb12.block _ hS.lt)
      clear HF hb2 hb12 hA1 hS c0 c1 c2 c3 c4
      by_cases hs : lookD D x = none
      · have hlk := lookBkNo hS2 x hs
        obtain ⟨w3, hrun0, hS3, hbut⟩ := run_update_text (P := Try.prog) (T := 53) (k := 9) (e := 3) Try.underlying53 Try.underlying9 hS2 x hs (.int .i64 k)
        have HEND : Hid (SMap w3 w.heap.size (D ++ [(x, .int .i64 k)]) ∧ Below w.heap.size w w3) := ⟨hS3, hbw2.trans (hbut.below (Nat.le_refl _))⟩
        have HB2 : Hid (type_of% (HPUT.out hs)) := HPUT.out hs
        clear hs hS3 hbut hbw2 HPUT HSKIP hbe HD hS2
        go_wp2_with fail
        go_roundw
        case rel => exact ⟨k + 1, _, by omega, by go_num, HB2.out, HEND.out.1, HEND.out.2⟩
        case measure => simp [intOf]; omega
      · obtain ⟨z, hz⟩ : ∃ z, lookD D x = some z := Option.ne_none_iff_exists'.1 hs
        have hlk := lookBk hS2 x z hz
        have HEND : Hid (SMap w2 w.heap.size D ∧ Below w.heap.size w w2) := ⟨hS2, hbw2⟩
        have HB2 : Hid (type_of% (HSKIP.out hs)) := HSKIP.out hs
        clear hs hbw2 HPUT HSKIP hbe HD hS2 hz
        go_wp2_with fail
        go_roundw
        case rel => exact ⟨k + 1, _, by omega, by go_num, HB2.out, HEND.out.1, HEND.out.2⟩
        case measure => simp [intOf]; omega
    · obtain rfl : k = es.length := by omega
      have HEND : Hid (BookD es es.length D ∧ SMap wr w.heap.size D ∧ Below w.heap.size w wr) := ⟨hD, hS, hbe⟩
      clear HEL hD hS hbe
      go_wp2_with fail
      go_ret
      obtain ⟨r1, r2, r3⟩ := HEND.out
      exact ⟨w.heap.size, D, rfl, r2, r1, Nat.le_refl _, r3⟩

set_option maxHeartbeats 1600000 in
set_option maxRecDepth 100000 in
theorem implNewBook (n : Nat) (v : Value) (es : List (ByteArray × Ty)) (w : World) (hrow : EnvAt w n v es) (hlen : es.length ≤ 1048576) :
    Calls Try.prog 23 #[v] w fun e w' => ∃ (M : Nat) (D : List (ByteArray × Value)) (pm : Option Addr), e = .returned (.agg #[v, .map (some M), .pointer pm]) ∧ SMap w' M D ∧ BookD es es.length D ∧ w.heap.size ≤ M ∧ Below w.heap.size w w' := by
  have hB1 : Below w.heap.size w (w.alloc (.cells #[.slice none 0 0, .map none, .pointer none] 56)) := (Below.refl _ _).alloc (Nat.le_refl _) _
  have hR1 : (w.alloc (.cells #[.slice none 0 0, .map none, .pointer none] 56)).heap[w.heap.size]? = some (.cells #[.slice none 0 0, .map none, .pointer none] 56 (0, 0)) := (MapKept.heap_alloc w _).1
  have HF : Hid (type_of% (implFirst n v es _ (hrow.below hB1) hlen)) := implFirst n v es _ (hrow.below hB1) hlen
  obtain ⟨av, capv, rfl, _⟩ := envOpen hrow
  have hzW : (w.alloc (.cells #[.slice none 0 0, .map none, .pointer none] 56)).heap.size = w.heap.size + 1 := by simp
  clear hrow
  go_enter Try.func23, Try.ntmps23
  go_wp2_with fail
  refine HF.out.mono ?_
  rintro e w2 ⟨M, D, rfl, hS, hD, hM, hb2⟩
  have HN : Hid (type_of% (implNewMaker w2)) := implNewMaker w2
  have hb3 := newMk_below w2
  have hz3 := newMk_size w2
  have h1 := (hb2.block w.heap.size (by omega)).trans hR1
  have hw1 : w.heap.size < w2.heap.size := (Array.getElem?_eq_some_iff.1 h1).1
  have h3 : (newMk w2).heap[w.heap.size]? = _ := (hb3.block w.heap.size hw1).trans h1
  have HEND : Hid (BookD es es.length D ∧ SMap (newMk w2) M D ∧ Below w.heap.size w (newMk w2)) := ⟨hD, hS.same (hb3.block M hS.lt), (hB1.trans (hb2.mono hB1.size)).trans (hb3.mono (by omega))⟩
  have hMw : w.heap.size + 1 ≤ M := by omega
  clear HF hS hD hb2 hR1 hB1 hM hzW h1
  go_wp2_with fail
  refine HN.out.mono ?_
  rintro e w3 ⟨rfl, rfl⟩
  generalize newMk w2 = w3 at *
  obtain ⟨_, hfz⟩ := block3B h3
  have hP := put_book h3 (x0 := .slice av es.length capv) (x1 := .map (some M)) (x2 := .pointer (some ⟨w2.heap.size + 3, 0, none⟩))
  obtain ⟨⟨c0, c1, c2⟩, _⟩ := block3B h3
  clear HN hb3 hz3
  go_wp2_with fail
  obtain ⟨r1, r2, r3⟩ := HEND.out
  refine ret_book rfl (block3B hP).1 ⟨M, D, _, rfl, r2.same ?_, r1, by omega, ((r3.setCell (Nat.le_refl _) _).setCell (Nat.le_refl _) _).setCell (Nat.le_refl _) _⟩
  rw [Below.heap_setCell _ _ _ _ (by simp; omega), Below.heap_setCell _ _ _ _ (by simp; omega), Below.heap_setCell _ _ _ _ (by simp; omega)]

end Go.Proofs.Yteocagdlbnhpgaa

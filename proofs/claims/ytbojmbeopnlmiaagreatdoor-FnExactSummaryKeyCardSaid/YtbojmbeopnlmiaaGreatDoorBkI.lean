/-
 The walks of impl.firstPlaces at names and types and of impl.newBook.
-/
import Derived.Test.YtbojmbeopnlmiaaGreatDoorPartsW
namespace Go.Proofs.YtbojmbeopnlmiaaGreatDoor
open Go.RowKit
def BookD (es : List (ByteArray × Ty)) (k : Nat) (D : List (ByteArray × Value)) : Prop := ∀ s, (∀ j, j < k → First es s j → lookD D s = some (.int .i64 j)) ∧ ((∀ j (h : j < es.length), j < k → es[j].1 ≠ s) → lookD D s = none)
theorem first_below {es : List (ByteArray × Ty)} {s : ByteArray} {k : Nat} (hk : k ≤ es.length) : (∃ j, j < k ∧ First es s j) ∨ ∀ j (h : j < es.length), j < k → es[j].1 ≠ s := by
 induction k with
 | zero => exact .inr fun j _ h => absurd h (by omega)
 | succ k ih =>
  rcases ih (by omega) with ⟨j, hj, hf⟩ | hn
  ·exact .inl ⟨j, by omega, hf⟩
  ·by_cases c : (es[k]'(by omega)).1 = s
   ·exact .inl ⟨k, by omega, by omega, c, fun i hi => hn i (by omega) hi⟩
   ·refine .inr fun j h hj => ?_
    by_cases e : j = k
    ·subst e; exact c
    ·exact hn j h (by omega)
theorem BookD.zero (es : List (ByteArray × Ty)) : BookD es 0 [] := fun s => ⟨fun j hj => absurd hj (by omega), fun _ => rfl⟩
theorem BookD.skip {es : List (ByteArray × Ty)} {k : Nat} {D : List (ByteArray × Value)} (h : BookD es k D) (hk : k < es.length) (hs : lookD D es[k].1 ≠ none) : BookD es (k + 1) D := fun s => by
 have hold : ∃ i, i < k ∧ First es es[k].1 i := by
  rcases first_below (es := es) (s := es[k].1) (k := k) (by omega) with q | q
  ·exact q
  ·exact absurd ((h es[k].1).2 q) hs
 obtain ⟨i, hi, hf⟩ := hold
 refine ⟨fun j hj hfj => ?_, fun hn => (h s).2 fun j hl hj => hn j hl (by omega)⟩
 by_cases c : j = k
 ·subst c
  obtain ⟨hj1, hj2, hj3⟩ := hfj
  subst hj2
  have := hf.one ⟨hj1, rfl, hj3⟩
  omega
 ·exact (h s).1 j (by omega) hfj
theorem BookD.put {es : List (ByteArray × Ty)} {k : Nat} {D : List (ByteArray × Value)} (h : BookD es k D) (hk : k < es.length) (hs : lookD D es[k].1 = none) : BookD es (k + 1) (D ++ [(es[k].1, .int .i64 k)]) := fun s => by
 have hno : ∀ j (hl : j < es.length), j < k → es[j].1 ≠ es[k].1 := by
  rcases first_below (es := es) (s := es[k].1) (k := k) (by omega) with ⟨i, hi, hf⟩ | q
  ·rw [(h es[k].1).1 i hi hf] at hs; cases hs
  ·exact q
 rw [lookD_app]
 refine ⟨fun j hj hfj => ?_, fun hn => ?_⟩
 ·by_cases c : j = k
  ·subst c
   obtain ⟨hj1, hj2, hj3⟩ := hfj
   subst hj2
   rw [hs]
   show (none : Option Value).or (if es[j].1 = es[j].1 then some (Value.int .i64 j) else none) = _
   rw [if_pos rfl]
   rfl
  ·rw [(h s).1 j (by omega) hfj]; rfl
 ·rw [(h s).2 fun j hl hj => hn j hl (by omega)]
  show (none : Option Value).or (if es[k].1 = s then some (Value.int .i64 k) else none) = _
  rw [if_neg (hn k hk (by omega))]
  rfl
theorem block3B {W : World} {b : Nat} {x0 x1 x2 : Value} (h : W.heap[b]? = some (.cells #[x0, x1, x2] 144 (0, 0))) : (W.cell? ⟨b, 0, none⟩ = some x0 ∧ W.cell? ⟨b, 1, none⟩ = some x1 ∧ W.cell? ⟨b, 2, none⟩ = some x2) ∧ ∀ j, W.frozen? ⟨b, j, none⟩ = false := by
 refine ⟨⟨?_, ?_, ?_⟩, fun j => frozen_of_row W b j _ _ h⟩
 ·rw [cell_of_row W b 0 _ _ (0, 0) h]; rfl
 ·rw [cell_of_row W b 1 _ _ (0, 0) h]; rfl
 ·rw [cell_of_row W b 2 _ _ (0, 0) h]; rfl
theorem put_book {w0 : World} {b : Nat} {z0 z1 z2 x0 x1 x2 : Value} (h : w0.heap[b]? = some (.cells #[z0, z1, z2] 144 (0, 0))) : (((w0.setCell ⟨b, 0, none⟩ x0).setCell ⟨b, 1, none⟩ x1).setCell ⟨b, 2, none⟩ x2).heap[b]? = some (.cells #[x0, x1, x2] 144 (0, 0)) :=
 heap_setCell_same _ b 2 _ _ x2 (heap_setCell_same _ b 1 _ _ x1 (heap_setCell_same w0 b 0 _ _ x0 h))
theorem ret_book {R : Ending → World → Prop} {W : World} {tmps : Array Value} {b : Nat} {x0 x1 x2 : Value} (hp : tmps[2]?.getD undef = .pointer (some ⟨b, 0, none⟩))
  (h : W.cell? ⟨b, 0, none⟩ = some x0 ∧ W.cell? ⟨b, 1, none⟩ = some x1 ∧ W.cell? ⟨b, 2, none⟩ = some x2) (hR : R (.returned (.agg #[x0, x1, x2])) W) :
  bodyPost Tryz.prog Tryz.f104 R .ret { tmps := tmps, defers := [] } W := by
 obtain ⟨h0, h1, h2⟩ := h
 refine bodyPost_ret (v := .agg #[x0, x1, x2]) ?_ rfl hR
 simp [results, Tryz.results104, go_sem, hp, h0, h1, h2]
theorem lookBk {W : World} {M : Nat} {D : List (ByteArray × Value)} (hM : SMap W M D) (s : ByteArray) (z : Value) (h : lookD D s = some z) : Sem.run Tryz.prog (Instr.lookup 142 (.map (some M)) (.string s) true) W = .ok (.tuple #[z, .bool true]) W := by
 have := run_lookup_text (P := Tryz.prog) (T := 142) (k := 9) (e := 3) (z := .int .i64 0) Tryz.underlying142 Tryz.underlying9 (by kernel_rfl) hM s true
 rw [h] at this
 exact this
theorem lookBkNo {W : World} {M : Nat} {D : List (ByteArray × Value)} (hM : SMap W M D) (s : ByteArray) (h : lookD D s = none) : Sem.run Tryz.prog (Instr.lookup 142 (.map (some M)) (.string s) true) W = .ok (.tuple #[.int .i64 0, .bool false]) W := by
 have := run_lookup_text (P := Tryz.prog) (T := 142) (k := 9) (e := 3) (z := .int .i64 0) Tryz.underlying142 Tryz.underlying9 (by kernel_rfl) hM s true
 rw [h] at this
 exact this
set_option maxHeartbeats 800000 in
set_option maxRecDepth 100000 in
theorem nameFn (x : ByteArray) (x0 x1 x2 x3 : Value) (w : World) :
  Calls Tryz.prog 127 #[.agg #[.string x, x0, x1, x2, x3]] w fun e w' => e = .returned (.string x) ∧ Below w.heap.size w w' := by
 have hB1 : Below w.heap.size w (w.alloc (.cells #[.string x, x0, x1, x2, x3] 75)) := (Below.refl _ _).alloc (Nat.le_refl _) _
 go_enter Tryz.func127, Tryz.ntmps127
 go_wp2_with fail
 go_ret
 exact ⟨rfl, hB1⟩
set_option maxHeartbeats 1600000 in
set_option maxRecDepth 100000 in
theorem implFirst (n : Nat) (v : Value) (es : List (ByteArray × Ty)) (w : World) (hrow : EnvAt w n v es) (hlen : es.length ≤ 1048576) :
  Calls Tryz.prog 126 #[v, .func (Fn.func 127) #[] #[]] w fun e w' => ∃ (M : Nat) (D : List (ByteArray × Value)), e = .returned (.map (some M)) ∧ SMap w' M D ∧ BookD es es.length D ∧ w.heap.size ≤ M ∧ Below w.heap.size w w' := by
 obtain ⟨av, capv, rfl, hel⟩ := envOpen hrow
 have HEL : Hid (type_of% hel) := hel
 have hmm := @run_makeMap Tryz.prog
 clear hel hrow
 go_enter Tryz.func126, Tryz.ntmps126
 go_wp2_with fail
 go_loopw [14] (fun i wr => ∃ (k : Nat) (D : List (ByteArray × Value)), k ≤ es.length ∧ i = .int .i64 k ∧ BookD es k D ∧ SMap wr w.heap.size D ∧ Below w.heap.size w wr) (fun i _ => es.length - (intOf i).toNat)
 case atStart =>
  refine ⟨0, [], Nat.zero_le _, rfl, BookD.zero es, SMap.made (MapKept.heap_alloc _ _).1, (Below.refl _ _).alloc (Nat.le_refl _) _⟩
 case round =>
  obtain ⟨k, D, hk, rfl, hD, hS, hbe⟩ := hrel
  by_cases hlt : k < es.length
  ·obtain ⟨b, off, x0, x1, x2, x3, rfl, hbl, hsz, hty, q0, q1, q2, q3, q4⟩ := HEL.out k hlt
   obtain ⟨an2, ln2, cn2, ak2, lk2, ck2, ee⟩ := hty.shape
   simp only [List.cons.injEq, and_true] at ee
   obtain ⟨rfl, rfl, rfl, rfl⟩ := ee
   have c0 := (hbe.cell (p := ⟨b, off + k * 5, none⟩) hbl).trans q0
   have c1 := (hbe.cell (p := ⟨b, off + k * 5 + 1, none⟩) hbl).trans q1
   have c2 := (hbe.cell (p := ⟨b, off + k * 5 + 2, none⟩) hbl).trans q2
   have c3 := (hbe.cell (p := ⟨b, off + k * 5 + 3, none⟩) hbl).trans q3
   have c4 := (hbe.cell (p := ⟨b, off + k * 5 + 4, none⟩) hbl).trans q4
   have hk0i : (0 : Int) ≤ (k : Int) := by omega
   have hk1i : (k : Int) < (es.length : Int) := by omega
   have hA1 : Below wr.heap.size wr (wr.alloc (.cells #[.string es[k].1, .int .i64 es[k].2.kind, .string es[k].2.name, .slice an2 ln2 cn2, .slice ak2 lk2 ck2] 75)) := (Below.refl _ _).alloc (Nat.le_refl _) _
   have HF : Hid (type_of% (nameFn es[k].1 (.int .i64 es[k].2.kind) (.string es[k].2.name) (.slice an2 ln2 cn2) (.slice ak2 lk2 ck2) (wr.alloc (.cells #[.string es[k].1, .int .i64 es[k].2.kind, .string es[k].2.name, .slice an2 ln2 cn2, .slice ak2 lk2 ck2] 75)))) := nameFn es[k].1 (.int .i64 es[k].2.kind) (.string es[k].2.name) (.slice an2 ln2 cn2) (.slice ak2 lk2 ck2) (wr.alloc (.cells #[.string es[k].1, .int .i64 es[k].2.kind, .string es[k].2.name, .slice an2 ln2 cn2, .slice ak2 lk2 ck2] 75))
   have HD : Hid (type_of% hD) := hD
   have HPUT : Hid (lookD D es[k].1 = none → BookD es (k + 1) (D ++ [(es[k].1, .int .i64 k)])) := fun h => hD.put hlt h
   have HSKIP : Hid (lookD D es[k].1 ≠ none → BookD es (k + 1) D) := fun h => hD.skip hlt h
   clear q0 q1 q2 q3 q4 hty hsz hD HEL
   generalize es[k].1 = x at *
   generalize es[k].2.kind = kd at *
   generalize es[k].2.name = tn at *
   go_wp2_with fail
   refine HF.out.mono ?_
   rintro e w2 ⟨rfl, hb2⟩
   have hb12 : Below wr.heap.size wr w2 := hA1.trans (hb2.mono hA1.size)
   have hbw2 : Below w.heap.size w w2 := hbe.trans (hb12.mono hbe.size)
   have hS2 : SMap w2 w.heap.size D := hS.same (hb12.block _ hS.lt)
   clear HF hb2 hb12 hA1 hS c0 c1 c2 c3 c4
   by_cases hs : lookD D x = none
   ·have hlk := lookBkNo hS2 x hs
    obtain ⟨w3, hrun0, hS3, hbut⟩ := run_update_text (P := Tryz.prog) (T := 142) (k := 9) (e := 3) Tryz.underlying142 Tryz.underlying9 hS2 x hs (.int .i64 k)
    have HEND : Hid (SMap w3 w.heap.size (D ++ [(x, .int .i64 k)]) ∧ Below w.heap.size w w3) := ⟨hS3, hbw2.trans (hbut.below (Nat.le_refl _))⟩
    have HB2 : Hid (type_of% (HPUT.out hs)) := HPUT.out hs
    clear hs hS3 hbut hbw2 HPUT HSKIP hbe HD hS2
    go_wp2_with fail
    go_roundw
    case rel => exact ⟨k + 1, _, by omega, by go_num, HB2.out, HEND.out.1, HEND.out.2⟩
    case measure => simp [intOf]; omega
   ·obtain ⟨z, hz⟩ : ∃ z, lookD D x = some z := Option.ne_none_iff_exists'.1 hs
    have hlk := lookBk hS2 x z hz
    have HEND : Hid (SMap w2 w.heap.size D ∧ Below w.heap.size w w2) := ⟨hS2, hbw2⟩
    have HB2 : Hid (type_of% (HSKIP.out hs)) := HSKIP.out hs
    clear hs hbw2 HPUT HSKIP hbe HD hS2 hz
    go_wp2_with fail
    go_roundw
    case rel => exact ⟨k + 1, _, by omega, by go_num, HB2.out, HEND.out.1, HEND.out.2⟩
    case measure => simp [intOf]; omega
  ·obtain rfl : k = es.length := by omega
   have HEND : Hid (BookD es es.length D ∧ SMap wr w.heap.size D ∧ Below w.heap.size w wr) := ⟨hD, hS, hbe⟩
   clear HEL hD hS hbe
   go_wp2_with fail
   go_ret
   obtain ⟨r1, r2, r3⟩ := HEND.out
   exact ⟨w.heap.size, D, rfl, r2, r1, Nat.le_refl _, r3⟩
set_option maxHeartbeats 1600000 in
set_option maxRecDepth 100000 in
theorem implNewBook (n : Nat) (v : Value) (es : List (ByteArray × Ty)) (w : World) (hrow : EnvAt w n v es) (hlen : es.length ≤ 1048576) :
  Calls Tryz.prog 104 #[v] w fun e w' => ∃ (M : Nat) (D : List (ByteArray × Value)) (pm : Option Addr), e = .returned (.agg #[v, .map (some M), .pointer pm]) ∧ SMap w' M D ∧ BookD es es.length D ∧ w.heap.size ≤ M ∧ Below w.heap.size w w' := by
 have hB1 : Below w.heap.size w (w.alloc (.cells #[.slice none 0 0, .map none, .pointer none] 144)) := (Below.refl _ _).alloc (Nat.le_refl _) _
 have hR1 : (w.alloc (.cells #[.slice none 0 0, .map none, .pointer none] 144)).heap[w.heap.size]? = some (.cells #[.slice none 0 0, .map none, .pointer none] 144 (0, 0)) := (MapKept.heap_alloc w _).1
 have HF : Hid (type_of% (implFirst n v es _ (hrow.below hB1) hlen)) := implFirst n v es _ (hrow.below hB1) hlen
 obtain ⟨av, capv, rfl, _⟩ := envOpen hrow
 have hzW : (w.alloc (.cells #[.slice none 0 0, .map none, .pointer none] 144)).heap.size = w.heap.size + 1 := by simp
 clear hrow
 go_enter Tryz.func104, Tryz.ntmps104
 go_wp2_with fail
 refine HF.out.mono ?_
 rintro e w2 ⟨M, D, rfl, hS, hD, hM, hb2⟩
 have HN : Hid (type_of% (implNewMaker w2)) := implNewMaker w2
 have hb3 := newMk_below w2
 have hz3 := newMk_size w2
 have h1 := (hb2.block w.heap.size (by omega)).trans hR1
 have hw1 : w.heap.size < w2.heap.size := (Array.getElem?_eq_some_iff.1 h1).1
 have h3 : (newMk w2).heap[w.heap.size]? = _ := (hb3.block w.heap.size hw1).trans h1
 have HEND : Hid (BookD es es.length D ∧ SMap (newMk w2) M D ∧ Below w.heap.size w (newMk w2)) := ⟨hD, hS.same (hb3.block M hS.lt), (hB1.trans (hb2.mono hB1.size)).trans (hb3.mono (by omega))⟩
 have hMw : w.heap.size + 1 ≤ M := by omega
 clear HF hS hD hb2 hR1 hB1 hM hzW h1
 go_wp2_with fail
 refine HN.out.mono ?_
 rintro e w3 ⟨rfl, rfl⟩
 generalize newMk w2 = w3 at *
 obtain ⟨_, hfz⟩ := block3B h3
 have hP := put_book h3 (x0 := .slice av es.length capv) (x1 := .map (some M)) (x2 := .pointer (some ⟨w2.heap.size + 3, 0, none⟩))
 obtain ⟨⟨c0, c1, c2⟩, _⟩ := block3B h3
 clear HN hb3 hz3
 go_wp2_with fail
 obtain ⟨r1, r2, r3⟩ := HEND.out
 refine ret_book rfl (block3B hP).1 ⟨M, D, _, rfl, r2.same ?_, r1, by omega, ((r3.setCell (Nat.le_refl _) _).setCell (Nat.le_refl _) _).setCell (Nat.le_refl _) _⟩
 rw [Below.heap_setCell _ _ _ _ (by simp; omega), Below.heap_setCell _ _ _ _ (by simp; omega), Below.heap_setCell _ _ _ _ (by simp; omega)]
def FindAns (w : World) (n : Nat) (es : List (ByteArray × Ty)) (s : ByteArray) (cs : List Value) (ok : Bool) : Prop :=
 (ok = true ∧ ∃ (j : Nat) (h : First es s j) (lo hi : Nat), TyIn w n lo hi cs (es[j]'h.1).2) ∨ (ok = false ∧ (∀ j (h : j < es.length), es[j].1 ≠ s) ∧ cs = [.int .i64 0, .string ⟨#[]⟩, .slice none 0 0, .slice none 0 0])
theorem block4F {W : World} {b : Nat} {x0 x1 x2 x3 : Value} (h : W.heap[b]? = some (.cells #[x0, x1, x2, x3] 30 (0, 0))) :
  (W.cell? ⟨b, 0, none⟩ = some x0 ∧ W.cell? ⟨b, 1, none⟩ = some x1 ∧ W.cell? ⟨b, 2, none⟩ = some x2 ∧ W.cell? ⟨b, 3, none⟩ = some x3) ∧ ∀ j, W.frozen? ⟨b, j, none⟩ = false := by
 refine ⟨⟨?_, ?_, ?_, ?_⟩, fun j => frozen_of_row W b j _ _ h⟩
 ·rw [cell_of_row W b 0 _ _ (0, 0) h]; rfl
 ·rw [cell_of_row W b 1 _ _ (0, 0) h]; rfl
 ·rw [cell_of_row W b 2 _ _ (0, 0) h]; rfl
 ·rw [cell_of_row W b 3 _ _ (0, 0) h]; rfl
theorem ret_find {R : Ending → World → Prop} {W : World} {tmps : Array Value} {b : Nat} {x0 x1 x2 x3 : Value} {ok : Bool} (hp : tmps[4]?.getD undef = .pointer (some ⟨b, 0, none⟩)) (hq : tmps[5]?.getD undef = .bool ok)
  (h : W.cell? ⟨b, 0, none⟩ = some x0 ∧ W.cell? ⟨b, 1, none⟩ = some x1 ∧ W.cell? ⟨b, 2, none⟩ = some x2 ∧ W.cell? ⟨b, 3, none⟩ = some x3) (hR : R (.returned (.tuple #[.agg #[x0, x1, x2, x3], .bool ok])) W) :
  bodyPost Tryz.prog Tryz.f131 R .ret { tmps := tmps, defers := [] } W := by
 obtain ⟨h0, h1, h2, h3⟩ := h
 refine bodyPost_ret (v := .tuple #[.agg #[x0, x1, x2, x3], .bool ok]) ?_ rfl hR
 simp [results, Tryz.results131, go_sem, hp, hq, h0, h1, h2, h3]
set_option maxHeartbeats 1600000 in
set_option maxRecDepth 100000 in
theorem implFind (n lo hi : Nat) (v : Value) (es : List (ByteArray × Ty)) (M : Nat) (D : List (ByteArray × Value)) (pm : Option Addr) (s : ByteArray) (w0 w : World) (hrow : EnvIn w0 n lo hi v es) (hhi : hi ≤ w0.heap.size) (hx : Below w0.heap.size w0 w) (hS : SMap w M D) (hD : BookD es es.length D) :
  Calls Tryz.prog 131 #[.agg #[v, .map (some M), .pointer pm], .string s] w fun e w' => ∃ (x0 x1 x2 x3 : Value) (ok : Bool), e = .returned (.tuple #[.agg #[x0, x1, x2, x3], .bool ok]) ∧ FindAns w0 n es s [x0, x1, x2, x3] ok ∧ Below w.heap.size w w' := by
 obtain ⟨b, capv, rfl, hlb, hbh, _, L, hL1, hL2, hL3⟩ := hrow
 have HEL : Hid (∀ k (h : k < es.length), ∃ x0 x1 x2 x3, TyIn w0 n (L k) (L (k + 1)) [x0, x1, x2, x3] es[k].2 ∧ w0.cell? ⟨b, k * 5 + 1, none⟩ = some x0 ∧ w0.cell? ⟨b, k * 5 + 2, none⟩ = some x1 ∧ w0.cell? ⟨b, k * 5 + 3, none⟩ = some x2 ∧ w0.cell? ⟨b, k * 5 + 4, none⟩ = some x3) := fun k h => by
  obtain ⟨_, cs, h1, _, h2⟩ := hL3 k h
  have hl := h1.len
  match cs, hl with
  | [x0, x1, x2, x3], _ => exact ⟨x0, x1, x2, x3, h1, h2 0 x0 rfl, h2 1 x1 rfl, h2 2 x2 rfl, h2 3 x3 rfl⟩
 obtain ⟨X, hX⟩ : ∃ X, X = (w.alloc (.cells #[.slice (some ⟨b, 0, none⟩) es.length capv, .map (some M), .pointer pm] 144)).alloc (.cells #[.int .i64 0, .string ⟨#[]⟩, .slice none 0 0, .slice none 0 0] 30) := ⟨_, rfl⟩
 have hbX : Below w.heap.size w X := by rw [hX]; exact ((Below.refl _ _).alloc (Nat.le_refl _) _).alloc (by simp) _
 have hSX : SMap X M D := hS.same (hbX.block M hS.lt)
 have h1X : X.heap[w.heap.size]? = some (.cells #[.slice (some ⟨b, 0, none⟩) es.length capv, .map (some M), .pointer pm] 144 (0, 0)) := by rw [hX]; exact heap_first w _ _
 have h2X : X.heap[w.heap.size + 1]? = some (.cells #[.int .i64 0, .string ⟨#[]⟩, .slice none 0 0, .slice none 0 0] 30 (0, 0)) := by rw [hX]; exact heap_second w _ _
 obtain ⟨⟨b0, b1, b2⟩, _⟩ := block3B h1X
 obtain ⟨⟨d0, d1, d2, d3⟩, df⟩ := block4F h2X
 have hbl : b < w0.heap.size := by omega
 have hb0 : Below w0.heap.size w0 X := hx.trans (hbX.mono hx.size)
 clear hL1 hL2 hL3
 rcases first_below (es := es) (s := s) (k := es.length) (Nat.le_refl _) with ⟨j, hj, hf⟩ | hno
 ·have hz := (hD s).1 j hj hf
  obtain ⟨x0, x1, x2, x3, hty, q1, q2, q3, q4⟩ := HEL.out j hj
  obtain ⟨an2, ln2, cn2, ak2, lk2, ck2, ee⟩ := hty.shape
  simp only [List.cons.injEq, and_true] at ee
  obtain ⟨rfl, rfl, rfl, rfl⟩ := ee
  have HA : Hid (FindAns w0 n es s [.int .i64 es[j].2.kind, .string es[j].2.name, .slice an2 ln2 cn2, .slice ak2 lk2 ck2] true) := .inl ⟨rfl, j, hf, _, _, hty⟩
  have c1 := (hb0.cell (p := ⟨b, j * 5 + 1, none⟩) hbl).trans q1
  have c2 := (hb0.cell (p := ⟨b, j * 5 + 2, none⟩) hbl).trans q2
  have c3 := (hb0.cell (p := ⟨b, j * 5 + 3, none⟩) hbl).trans q3
  have c4 := (hb0.cell (p := ⟨b, j * 5 + 4, none⟩) hbl).trans q4
  have hlk := lookBk hSX s _ hz
  have hj0 : (0 : Int) ≤ (j : Int) := by omega
  have hj1 : (j : Int) < (es.length : Int) := by omega
  clear q1 q2 q3 q4 hty HEL hz hD hS hSX hf hbX hb0 hx h1X h2X
  generalize es[j].2.kind = kd at *
  generalize es[j].2.name = tn at *
  subst hX
  go_enter Tryz.func131, Tryz.ntmps131
  go_wp2_with fail
  refine ret_find rfl rfl (block4F (heap_second w _ _)).1 ⟨_, _, _, _, true, rfl, HA.out, ((Below.refl _ _).alloc (Nat.le_refl _) _).alloc (by simp) _⟩
 ·have hz := (hD s).2 fun j h _ => hno j h h
  have hlk := lookBkNo hSX s hz
  have HA : Hid (FindAns w0 n es s [.int .i64 0, .string ⟨#[]⟩, .slice none 0 0, .slice none 0 0] false) := .inr ⟨rfl, fun j h => hno j h h, rfl⟩
  clear HEL hz hD hS hSX hno hbX hb0 hx h1X h2X
  subst hX
  go_enter Tryz.func131, Tryz.ntmps131
  go_wp2_with fail
  refine ret_find rfl rfl (block4F (heap_second w _ _)).1 ⟨_, _, _, _, false, rfl, HA.out, ((Below.refl _ _).alloc (Nat.le_refl _) _).alloc (by simp) _⟩
end Go.Proofs.YtbojmbeopnlmiaaGreatDoor
namespace Go.Proofs.YtbojmbeopnlmiaaGreatDoor
open Go.RowKit Go.Sort Go.Shelf
def namesOf (l : List Ent) : List ByteArray := (l.filter fun p => decide (p.t.kind = 4)).map (·.t.name)
theorem namesOf_more (l : List Ent) (k : Nat) (h : k < l.length) : namesOf (l.take (k + 1)) = namesOf (l.take k) ++ (if l[k].t.kind = 4 then [l[k].t.name] else []) := by
 unfold namesOf
 rw [List.take_succ_eq_append_getElem h, List.filter_append, List.map_append]
 by_cases c : l[k].t.kind = 4 <;> simp [c]
theorem namesOf_len (l : List Ent) : (namesOf l).length ≤ l.length := by
 unfold namesOf
 rw [List.length_map]
 exact List.length_filter_le _ _
theorem namesOf_mem {N : List Ty} {l : List Ent} (h : N.Perm (l.map (·.t))) (x : ByteArray) : x ∈ namesOf l ↔ ∃ u ∈ N, u.kind = 4 ∧ u.name = x := by
 unfold namesOf
 rw [List.mem_map]
 constructor
 ·rintro ⟨p, hp, e⟩
  obtain ⟨h1, h2⟩ := List.mem_filter.1 hp
  exact ⟨p.t, h.mem_iff.2 (List.mem_map.2 ⟨p, h1, rfl⟩), by simpa using h2, e⟩
 ·rintro ⟨u, hu, h4, e⟩
  obtain ⟨p, hp, rfl⟩ := List.mem_map.1 (h.mem_iff.1 hu)
  exact ⟨p, List.mem_filter.2 ⟨hp, by simp [h4]⟩, e⟩
theorem name_small (n : Nat) : ∀ (t u : Ty), u ∈ Ty.nodes n t → u.name.size ≤ Ty.bulk n t := by
 induction n with
 | zero => intro t u hu; simp [Ty.nodes] at hu
 | succ n ih =>
  intro t u hu
  rw [Ty.nodes] at hu
  rw [Ty.bulk]
  rcases List.mem_cons.1 hu with e | hu
  ·rw [e]; omega
  ·obtain ⟨q, hq, hu⟩ := List.mem_flatMap.1 hu
   obtain ⟨j, hj, rfl⟩ := List.getElem_of_mem hq
   have h1 := ih _ u hu
   have h2 := kid_bulk n t.kids j hj
   omega
theorem one_cellI {X : World} {G : Nat} {s : ByteArray} (h : X.cell? ⟨G, 0, none⟩ = some (.string s)) : ∀ j u, [Value.string s][j]? = some u → X.cell? ((⟨G, 0, none⟩ : Addr).add j) = some u := by
 intro j u hj
 match j, hj with
 | 0, hj => simp at hj; subst hj; simpa [Addr.add] using h
 | j + 1, hj => simp at hj
theorem sortS {B g cap : Nat} {zs : List ByteArray} {w : World} (h : w.ownsRow B 9 1 (.slice (some ⟨g, 0, none⟩) zs.length cap) zs.length (strV zs)) (hz : zs.length ≤ 1048577) :
  Calls Tryz.prog 132 #[.slice (some ⟨g, 0, none⟩) zs.length cap] w fun e w' => e = .returned (.tuple #[]) ∧ ∃ n os, w' = grow (putRow encStr (Sort.ahead w n) g 0 ((keysOf zs).mergeSort fun x y => decide (x ≤ y)).toArray) os := by
 rw [← keys_enc] at h
 obtain ⟨g', cap', e, _, hlt, _, _, hl, hH⟩ := Lib.holds_of_ownsRow h (by simp)
 simp only [Value.slice.injEq, Option.some.injEq, Addr.mk.injEq, true_and, and_true] at e
 obtain ⟨rfl, rfl⟩ := e
 have := Tryz.slices_Sort_string g 0 cap (keysOf zs) w hH hlt (by omega)
 rw [hl] at this
 exact this
theorem compactS {B g cap nn : Nat} {os : Array Obj} {zs : List ByteArray} {w : World} (h : w.ownsRow B 9 1 (.slice (some ⟨g, 0, none⟩) zs.length cap) zs.length (strV zs)) (hz : zs.length ≤ 1048577) :
  Calls Tryz.prog 146 #[.slice (some ⟨g, 0, none⟩) zs.length cap] (grow (putRow encStr (Sort.ahead w nn) g 0 ((keysOf zs).mergeSort fun x y => decide (x ≤ y)).toArray) os) fun e w' => e = .returned (.slice (some ⟨g, 0, none⟩) (uniq zs).length cap) ∧ ∃ q, w' = putRow encStr (Sort.ahead (grow (putRow encStr (Sort.ahead w nn) g 0 ((keysOf zs).mergeSort fun x y => decide (x ≤ y)).toArray) os) q) g 0 (Lib.compact ((keysOf zs).mergeSort fun x y => decide (x ≤ y)) ++ List.replicate (zs.length - (Lib.compact ((keysOf zs).mergeSort fun x y => decide (x ≤ y))).length) []).toArray := by
 have hu : (uniq zs).length = (Lib.compact ((keysOf zs).mergeSort fun x y => decide (x ≤ y))).length := by unfold uniq ofKeys; rw [List.length_map]
 rw [← keys_enc] at h
 obtain ⟨g', cap', e, _, hlt, hnc, _, hl, hH⟩ := Lib.holds_of_ownsRow h (by simp)
 simp only [Value.slice.injEq, Option.some.injEq, Addr.mk.injEq, true_and, and_true] at e
 obtain ⟨rfl, rfl⟩ := e
 have hl2 : ((keysOf zs).mergeSort fun x y => decide (x ≤ y)).length = zs.length := by rw [List.length_mergeSort]; exact hl
 have hH2 : Holds encStr (grow (putRow encStr (Sort.ahead w nn) g 0 ((keysOf zs).mergeSort fun x y => decide (x ≤ y)).toArray) os) g 0 ((keysOf zs).mergeSort fun x y => decide (x ≤ y)).toArray :=
  holds_grow encStr _ os g 0 _ (by simpa [putRow, mapBlock, Sort.ahead] using hlt) (holds_putRow encStr _ g 0 _ _ (holds_ahead encStr w nn g 0 _ hH) (by simp))
 have := Tryz.slices_Compact_string g 0 cap ((keysOf zs).mergeSort fun x y => decide (x ≤ y)) _ hH2 (by omega) (by omega)
 rw [hl2] at this
 rw [hu]
 exact this
set_option maxHeartbeats 1600000 in
set_option maxRecDepth 100000 in
theorem implNames (n lo hi : Nat) (cs : List Value) (t : Ty) (w : World) (h : TyUp w n lo hi cs t) (hbk : Ty.bulk n t ≤ 1048576) :
  Calls Tryz.prog 130 #[.agg cs.toArray] w fun e w' => ∃ ao cap r, e = .returned (.slice ao r.length cap) ∧ w'.ownsRow w.heap.size 9 1 (.slice ao r.length cap) r.length (strV r) ∧ r.length ≤ 1048577 ∧ Asc r ∧ (∀ x, x ∈ r ↔ namesIn n t x) ∧ Below w.heap.size w w' := by
 obtain ⟨x0, x1, x2, x3, rfl⟩ : ∃ x0 x1 x2 x3, cs = [x0, x1, x2, x3] := by
  obtain ⟨an, ln, cn, ak, lk, ck, e⟩ := h.shape
  exact ⟨_, _, _, _, e⟩
 have hN : (Ty.nodes n t).length ≤ 1048577 := by have := nodes_len n t; omega
 have HNI : Hid (∀ x, namesIn n t x ↔ ∃ u ∈ Ty.nodes n t, u.kind = 4 ∧ u.name = x) := fun x => Iff.rfl
 have HC : Hid (∀ wx : World, Below w.heap.size w wx → Calls Tryz.prog 144 #[.agg #[x0, x1, x2, x3]] wx fun e w' => ∃ (ao : Option Addr) (cap : Nat) (l : List Ent), e = .returned (.slice ao l.length cap) ∧ w'.ownsRow wx.heap.size 30 4 (.slice ao l.length cap) l.length (flatE l) ∧ (Ty.nodes n t).Perm (l.map (·.t)) ∧ (∀ p ∈ l, p.up wx) ∧ Below wx.heap.size wx w') := fun wx hx => (implPartsOf n lo hi [x0, x1, x2, x3] t wx (h.below hx (Nat.le_refl _)) hbk).mono fun e w' hh => by
  obtain ⟨v, l, h1, h2, h3⟩ := hh
  obtain ⟨ao, cap, rfl⟩ := slice_ownT h2
  exact ⟨ao, cap, l, h1, h2, h3⟩
 obtain ⟨i0, hi0, hz0, hz1, hz2⟩ := info_parts Tryz.infoString
 have HSM : Hid (∀ u ∈ Ty.nodes n t, u.name.size ≤ 1048576) := fun u hu => Nat.le_trans (name_small n t u hu) hbk
 clear h hbk
 generalize Ty.nodes n t = N at *
 have hB1 : Below w.heap.size w (w.alloc (.cells #[x0, x1, x2, x3] 30)) := (Below.refl _ _).alloc (Nat.le_refl _) _
 go_enter Tryz.func130, Tryz.ntmps130
 go_wp2_with fail
 refine (HC.out _ hB1).mono ?_
 rintro e w2 ⟨ao, cap, l, rfl, ho, hperm, hfit, hb2⟩
 have hb02 : Below w.heap.size w w2 := hB1.trans (hb2.mono (by simp))
 have HP : Hid (∀ x, x ∈ namesOf l ↔ namesIn n t x) := fun x => by rw [namesOf_mem hperm, HNI.out]
 have HSL : Hid (∀ p ∈ l, p.t.name.size ≤ 1048576) := fun p hp => HSM.out _ (hperm.mem_iff.2 (List.mem_map.2 ⟨p, hp, rfl⟩))
 have hll : l.length ≤ 1048577 := by have := hperm.length_eq; rw [List.length_map] at this; omega
 have HO : Hid (type_of% ho) := ho
 have HF : Hid (type_of% hfit) := hfit
 clear HC HNI hperm ho hfit hB1 hb2 HSM
 go_wp2_with fail
 go_loopw [3, 9] (fun v i wr => ∃ (k : Nat) (zs : List ByteArray), k ≤ l.length ∧ i = .int .i64 k ∧ zs = namesOf (l.take k) ∧ wr.ownsRow w2.heap.size 9 1 v zs.length (strV zs) ∧ Below w2.heap.size w2 wr) (fun _ i _ => l.length - (intOf i).toNat)
 case atStart => exact ⟨0, [], Nat.zero_le _, rfl, rfl, World.ownsRow_nil _ _ _ _, Below.refl _ _⟩
 case round =>
  obtain ⟨k, zs, hk, rfl, hzs, how, hbe⟩ := hrel
  have hzl : zs.length ≤ k := by rw [hzs]; have := namesOf_len (l.take k); rw [List.length_take] at this; omega
  have HZ : Hid (zs = namesOf (l.take k)) := hzs
  have hbw : Below w.heap.size w wr := hb02.trans (hbe.mono hb02.size)
  have hz2w : w2.heap.size ≤ wr.heap.size := hbe.size
  clear hzs
  by_cases hlt : k < l.length
  ·obtain ⟨g, capg, e, hcell⟩ := row_cells HO.out HF.out k hlt
   simp only [Value.slice.injEq, true_and] at e
   obtain ⟨rfl, rfl⟩ := e
   obtain ⟨an, ln, cn, ak, lk, ck, hcs⟩ := (HF.out _ (List.getElem_mem hlt)).shape
   rw [hcs] at hcell
   have hgl : g < w2.heap.size := World.block_lt_of_cell? w2 ⟨g, k * 4 + 0, none⟩ (hcell 0 _ rfl)
   have c0 := (hbe.cell (p := ⟨g, k * 4 + 0, none⟩) hgl).trans (hcell 0 _ rfl)
   have c1 := (hbe.cell (p := ⟨g, k * 4 + 1, none⟩) hgl).trans (hcell 1 _ rfl)
   have c2 := (hbe.cell (p := ⟨g, k * 4 + 2, none⟩) hgl).trans (hcell 2 _ rfl)
   have c3 := (hbe.cell (p := ⟨g, k * 4 + 3, none⟩) hgl).trans (hcell 3 _ rfl)
   rw [Nat.add_zero] at c0
   have hsm : l[k].t.name.size ≤ 1048576 := HSL.out _ (List.getElem_mem hlt)
   by_cases h4 : l[k].t.kind = 4
   ·have HZ2 : Hid (zs ++ [l[k].t.name] = namesOf (l.take (k + 1))) := by show _ = _; rw [namesOf_more l k hlt, if_pos h4, HZ.out]
    rw [h4] at c0
    generalize l[k].t.name = nm at *
    obtain ⟨az, capz, hv⟩ := slice_ownT how
    subst hv
    have HC : Hid (∀ wx : World, Calls Tryz.prog 145 #[.string nm] wx fun e w' => e = .returned (.string nm) ∧ Below wx.heap.size wx w') := fun wx => stringsClone nm wx (by omega)
    clear hcell hcs h4 HF HO HP HSL
    go_wp2_with fail
    refine (HC.out _).mono ?_
    rintro e w3 ⟨rfl, hb3⟩
    have how3 := kept_belowT (how.alloc _) hb3
    have hbe3 : Below w2.heap.size w2 w3 := (hbe.alloc hz2w _).trans (hb3.mono (by simp; omega))
    have hz3 : w2.heap.size ≤ w3.heap.size := hbe3.size
    clear how hb3 HC
    go_wp2_with (at_builtin; refine wpList_append_own _ rfl _ _ 22 rfl w2.heap.size 9 i0 (.string ⟨#[]⟩) 1 16 Tryz.underlying22 hi0 hz0 hz1 hz2 rfl (by decide) _ _ _ rfl (how3.alloc _) ⟨w3.heap.size, 0, none⟩ 1 1 [.string nm] rfl rfl ?c1 ?c2 ?c3 ?c4 ?c5 ?_)
    case c1 => exact one_cellI (cellNew 0 rfl)
    case c2 => intro u hu; simp at hu; subst hu; rfl
    case c3 => unfold maxLen; omega
    case c4 => omega
    case c5 => simp; omega
    intro v' w4 hown' hgrow _
    have R1 : w4.ownsRow w2.heap.size 9 1 v' (zs ++ [nm]).length (strV (zs ++ [nm])) := by simpa [strV] using hown'
    have R2 : Below w2.heap.size w2 w4 := (hbe3.alloc hz3 _).grown hgrow (by simp; omega) (fun j hj => (how3.lt j hj).1)
    clear hown' hgrow how3 hbe3
    go_wp2_with fail
    go_roundw
    case rel => exact ⟨k + 1, zs ++ [nm], by omega, by go_num, HZ2.out, R1, R2⟩
    case measure => simp [intOf]; omega
   ·have HZ2 : Hid (zs = namesOf (l.take (k + 1))) := by show _ = _; rw [namesOf_more l k hlt, if_neg h4, List.append_nil, HZ.out]
    generalize l[k].t.name = nm at *
    generalize l[k].t.kind = kd at *
    clear hcell hcs HF HO HP
    go_wp2_with fail
    go_roundw
    case rel => exact ⟨k + 1, zs, by omega, by go_num, HZ2.out, how.alloc _, hbe.alloc hz2w _⟩
    case measure => simp [intOf]; omega
  ·have hke : k = l.length := by omega
   rw [hke, List.take_of_length_le (Nat.le_refl _)] at HZ
   have HM : Hid (∀ x, x ∈ uniq zs ↔ namesIn n t x) := fun x => by rw [uniq_mem, HZ.out, HP.out]
   have HA : Hid (Asc (uniq zs)) := uniq_asc zs
   have hul := uniq_len zs
   have hbB : w.heap.size ≤ w2.heap.size := hb02.size
   clear HF HO HP HSL HZ
   rcases how.2 with ⟨hv, h0⟩ | ⟨g, cz, cur, hv, hg, _⟩
   ·subst hv
    have hz0' : zs = [] := List.length_eq_zero_iff.1 h0
    subst hz0'
    have hu0 : uniq [] = [] := List.length_eq_zero_iff.1 (by simpa using hul)
    rw [hu0] at HM HA
    clear how hu0
    go_wp2_with fail
    refine (Tryz.slices_Sort_string_none none 0 wr).mono ?_
    rintro e w3 ⟨rfl, rfl⟩
    go_wp2_with fail
    refine (Tryz.slices_Compact_string_empty none 0 w3).mono ?_
    rintro e w4 ⟨rfl, rfl⟩
    go_wp2_with fail
    go_ret
    exact ⟨none, 0, [], rfl, World.ownsRow_nil _ _ _ _, by simp, HA.out, HM.out, hbw⟩
   ·subst hv
    have HS := sortS how (by omega)
    have HS2 : Hid (type_of% HS) := HS
    have HK : Hid (∀ nn os, type_of% (compactS (nn := nn) (os := os) how (by omega))) := fun nn os => compactS how (by omega)
    have HO : Hid (type_of% how) := how
    clear how HS
    go_wp2_with fail
    refine HS2.out.mono ?_
    rintro e w3 ⟨rfl, nn, os, rfl⟩
    go_wp2_with fail
    refine (HK.out nn os).mono ?_
    rintro e w4 ⟨rfl, q, rfl⟩
    obtain ⟨F1, F2⟩ := uniq_end (nn := nn) (q := q) (os := os) HO.out (Below.refl _ _) hz2w
    go_wp2_with fail
    go_ret
    exact ⟨some ⟨g, 0, none⟩, cz, uniq zs, rfl, ⟨F1.1, F1.2.imp id (fun ⟨g', c', cur', e1, e2, e3⟩ => ⟨g', c', cur', e1, Nat.le_trans hbB e2, e3⟩)⟩, by omega, HA.out, HM.out, hbw.trans (F2.mono (by omega))⟩
end Go.Proofs.YtbojmbeopnlmiaaGreatDoor

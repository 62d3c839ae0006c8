/-
  The walk of spec.Lookup.
  The walk of impl.freshOf.
  The walk of slices.IndexFunc at names and types with impl.Lookup's own function.
  The walk of impl.Lookup.
  The walk of the law's own helper markNamedS.
-/
import Derived.Test.YtpaamlniicipbaaDoorCpS
import Derived.Test.YtpaamlniicipbaaDoorCopyS
import Derived.Test.YtpaamlniicipbaaDoorTypeJ
import Derived.Test.YtpaamlniicipbaaDoorFormU
import Derived.Test.YtpaamlniicipbaaDoorFormsI
import Derived.Test.YtpaamlniicipbaaDoorNmD
import Derived.Test.YtpaamlniicipbaaDoorMarkTy
namespace Go.Proofs.YtpaamlniicipbaaDoor
open Go.RowKit

theorem ret_lkS {R : Ending → World → Prop} {W : World} {tmps : Array Value} {b : Nat} {x0 x1 x2 x3 : Value} {ok : Bool} (hp : tmps[4]?.getD undef = .pointer (some ⟨b, 0, none⟩)) (hq : tmps[5]?.getD undef = .bool ok)
    (h : W.cell? ⟨b, 0, none⟩ = some x0 ∧ W.cell? ⟨b, 1, none⟩ = some x1 ∧ W.cell? ⟨b, 2, none⟩ = some x2 ∧ W.cell? ⟨b, 3, none⟩ = some x3) (hR : R (.returned (.tuple #[.agg #[x0, x1, x2, x3], .bool ok])) W) :
    bodyPost Tryd.prog Tryd.f10 R .ret { tmps := tmps, defers := [] } W := by
  obtain ⟨h0, h1, h2, h3⟩ := h
  refine bodyPost_ret (v := .tuple #[.agg #[x0, x1, x2, x3], .bool ok]) ?_ rfl hR
  simp [results, Tryd.results10, go_sem, hp, hq, h0, h1, h2, h3]

set_option maxHeartbeats 1600000 in
set_option maxRecDepth 100000 in
theorem specLookup (n : Nat) (v : Value) (es : List (ByteArray × Ty)) (nm : ByteArray) (w : World) (hrow : EnvAt w (n + 1) v es) (hb : envBulk (n + 1) es ≤ 1048576) :
    Calls Tryd.prog 10 #[v, .string nm] w fun e w' => ∃ (l : Lay) (t : Ty) (ok : Bool), e = .returned (.tuple #[.agg (cellsK t l).toArray, .bool ok]) ∧ LookAns es nm t ok ∧ (LayAt w' (n + 1) l t ∧ ∀ b ∈ Lay.blocks (n + 1) l, w.heap.size ≤ b) ∧ Below w.heap.size w w' := by
  obtain ⟨av, capv, rfl, hel⟩ := envOpen hrow
  have hlen : es.length ≤ 1048576 := by unfold envBulk at hb; omega
  have HEL : Hid (type_of% hel) := hel
  have HB : Hid (type_of% hb) := hb
  have hB1 : Below w.heap.size w (w.alloc (.cells #[.int .i64 0, .string ⟨#[]⟩, .slice none 0 0, .slice none 0 0] 32)) := (Below.refl _ _).alloc (Nat.le_refl _) _
  have hR1 : (w.alloc (.cells #[.int .i64 0, .string ⟨#[]⟩, .slice none 0 0, .slice none 0 0] 32)).heap[w.heap.size]? = some (.cells #[.int .i64 0, .string ⟨#[]⟩, .slice none 0 0, .slice none 0 0] 32 (0, 0)) := (MapKept.heap_alloc w _).1
  clear hel hrow hb
  go_enter Tryd.func10, Tryd.ntmps10
  go_wp2_with fail
  generalize (w.alloc (.cells #[.int .i64 0, .string ⟨#[]⟩, .slice none 0 0, .slice none 0 0] 32)) = W1 at *
  obtain ⟨⟨r0, r1, r2, r3⟩, rf⟩ := block4 hR1
  have rf0 := rf 0
  have rf1 := rf 1
  have rf2 := rf 2
  have rf3 := rf 3
  have hzW : w.heap.size < W1.heap.size := (Array.getElem?_eq_some_iff.1 hR1).1
  clear rf
  go_loopw [6] (fun i wr => ∃ k : Nat, k ≤ es.length ∧ i = .int .i64 k ∧ (∀ j (h : j < es.length), j < k → es[j].1 ≠ nm) ∧ wr = W1) (fun i _ => es.length - (intOf i).toNat)
  case atStart => exact ⟨0, Nat.zero_le _, rfl, fun j _ h => absurd h (by omega), rfl⟩
  case round =>
    obtain ⟨k, hk, rfl, hall, rfl⟩ := hrel
    have HALL : Hid (type_of% hall) := hall
    clear hall
    by_cases hlt : k < es.length
    · obtain ⟨b, off, x0, x1, x2, x3, rfl, hbl, _, hty, q0, q1, q2, q3, q4⟩ := HEL.out k hlt
      have c0 := (hB1.cell (p := ⟨b, off + k * 5, none⟩) hbl).trans q0
      have c1 := (hB1.cell (p := ⟨b, off + k * 5 + 1, none⟩) hbl).trans q1
      have c2 := (hB1.cell (p := ⟨b, off + k * 5 + 2, none⟩) hbl).trans q2
      have c3 := (hB1.cell (p := ⟨b, off + k * 5 + 3, none⟩) hbl).trans q3
      have c4 := (hB1.cell (p := ⟨b, off + k * 5 + 4, none⟩) hbl).trans q4
      have hk0i : (0 : Int) ≤ (k : Int) := by omega
      have hk1i : (k : Int) < (es.length : Int) := by omega
      by_cases he : es[k].1 = nm
      · have HC : Hid (∃ l, True) := ⟨(.mk undef undef [] : Lay), trivial⟩
        have hbk := env_bulk (n + 1) es k hlt
        have hB := HB.out
        have HCP := specCopy (n + 1) _ _ wr (hty.below hB1) (by omega)
        have HCQ : Hid (type_of% HCP) := HCP
        have HA : Hid (LookAns es nm es[k].2 true) := .inl ⟨rfl, k, hlt, he, fun i hi => HALL.out i (by omega) hi, rfl⟩
        have hcmp : (es[k].1.toList == nm.toList) = true := by rw [he]; exact beq_self_eq_true _
        clear q0 q1 q2 q3 q4 HCP hbk hB he HALL HC HEL HB
        generalize es[k].1 = x at *
        go_wp2_with fail
        refine HCQ.out.mono ?_
        rintro e w2 ⟨l, rfl, hl, hb2⟩
        obtain ⟨a1, l1, k1, a2, l2, k2, ev1, ev2⟩ : ∃ a1 l1 k1 a2 l2 k2, l.vn = .slice a1 l1 k1 ∧ l.vk = .slice a2 l2 k2 := by
          obtain ⟨a, c, e⟩ := hl.1.1.slice
          obtain ⟨a', c', e'⟩ := hl.1.2.2.1.slice
          exact ⟨a, _, c, a', _, c', e, e'⟩
        have HCL : Hid (cellsK es[k].2 l = [.int .i64 es[k].2.kind, .string es[k].2.name, .slice a1 l1 k1, .slice a2 l2 k2]) := by show _ = _; unfold cellsK; rw [ev1, ev2]
        rw [HCL.out]
        have HL : Hid (type_of% hl) := hl
        have hbw2 : Below w.heap.size w w2 := hB1.trans (hb2.mono hB1.size)
        have hr2 := (hb2.block w.heap.size hzW).trans hR1
        clear r0 r1 r2 r3 rf0 rf1 rf2 rf3
        obtain ⟨⟨r0, r1, r2, r3⟩, rf⟩ := block4 hr2
        have rf0 := rf 0
        have rf1 := rf 1
        have rf2 := rf 2
        have rf3 := rf 3
        clear rf hl ev1 ev2
        go_wp2_with fail
        refine ret_lkS rfl rfl (put4T fun j hj => ?_) ⟨l, es[k].2, true, by rw [HCL.out], HA.out, ⟨HL.out.1.same fun b hb => put_other (by have := HL.out.2.2 b hb; omega), fun b hb => by have := HL.out.2.2 b hb; omega⟩, put_below hbw2 (Nat.le_refl _)⟩
        match j, hj with
        | 0, _ => rw [r0]; rfl
        | 1, _ => rw [r1]; rfl
        | 2, _ => rw [r2]; rfl
        | 3, _ => rw [r3]; rfl
      · have HA2 : Hid (∀ j (h : j < es.length), j < k + 1 → es[j].1 ≠ nm) := fun j hj hjk => by
          by_cases c : j = k
          · subst c; exact he
          · exact HALL.out j hj (by omega)
        have hcmp := eq_no he
        clear q0 q1 q2 q3 q4 he HALL hty
        generalize es[k].1 = x at *
        go_wp2_with fail
        go_roundw
        case rel => exact ⟨k + 1, by omega, by go_num, HA2.out, by trivial⟩
        case measure => simp [intOf]; omega
    · have HA : Hid (LookAns es nm (.mk 0 ⟨#[]⟩ [] []) false) := .inr ⟨rfl, rfl, fun j h => HALL.out j h (by omega)⟩
      clear HALL HEL HB
      go_wp2_with fail
      refine ret_lkS rfl rfl (put4T fun j hj => ?_) ⟨.mk (.slice none 0 0) (.slice none 0 0) [], .mk 0 ⟨#[]⟩ [] [], false, rfl, HA.out, ⟨(zeroLayL (B := 0)).1, (zeroLayL (B := w.heap.size) (w := w)).2.2⟩, put_below hB1 (Nat.le_refl _)⟩
      match j, hj with
      | 0, _ => rw [r0]; rfl
      | 1, _ => rw [r1]; rfl
      | 2, _ => rw [r2]; rfl
      | 3, _ => rw [r3]; rfl

end Go.Proofs.YtpaamlniicipbaaDoor

namespace Go.Proofs.YtpaamlniicipbaaDoor
open Go.RowKit Go.Shelf

theorem ret_fr {R : Ending → World → Prop} {W : World} {tmps : Array Value} {b : Nat} {x0 x1 x2 x3 : Value} (hp : tmps[2]?.getD undef = .pointer (some ⟨b, 0, none⟩))
    (h : W.cell? ⟨b, 0, none⟩ = some x0 ∧ W.cell? ⟨b, 1, none⟩ = some x1 ∧ W.cell? ⟨b, 2, none⟩ = some x2 ∧ W.cell? ⟨b, 3, none⟩ = some x3) (hR : R (.returned (.agg #[x0, x1, x2, x3])) W) :
    bodyPost Tryd.prog Tryd.f27 R .ret { tmps := tmps, defers := [] } W := by
  obtain ⟨h0, h1, h2, h3⟩ := h
  refine bodyPost_ret (v := .agg #[x0, x1, x2, x3]) ?_ rfl hR
  simp [results, Tryd.results27, go_sem, hp, h0, h1, h2, h3]

theorem lay_slicesF {w : World} {n : Nat} {l : Lay} {t : Ty} (h : LayAt w n l t) : ∃ an ln cn ak lk ck, cellsK t l = [.int .i64 t.kind, .string t.name, .slice an ln cn, .slice ak lk ck] := by
  cases n with
  | zero => exact h.elim
  | succ n =>
    obtain ⟨a, c, e⟩ := h.1.slice
    obtain ⟨a', c', e'⟩ := h.2.2.1.slice
    exact ⟨a, _, c, a', _, c', by unfold cellsK; rw [e, e']⟩

set_option maxHeartbeats 1600000 in
set_option maxRecDepth 100000 in
theorem implFreshOf (n lo hi : Nat) (cs : List Value) (t : Ty) (w : World) (h : TyIn w n lo hi cs t) (hhi : hi ≤ w.heap.size) (hb : Ty.bulk n t ≤ 1048576) (hc : ClsIs w) :
    Calls Tryd.prog 27 #[.agg cs.toArray] w fun e w' => ∃ l, e = .returned (.agg (cellsK t l).toArray) ∧ NewLay w.heap.size w' n l t ∧ Below w.heap.size w w' := by
  obtain ⟨an, ln, cn, ak, lk, ck, rfl⟩ := h.at.shape
  have hW : Below w.heap.size w ((w.alloc (.cells #[.int .i64 t.kind, .string t.name, .slice an ln cn, .slice ak lk ck] 32)).alloc (.cells #[.int .i64 0, .string ⟨#[]⟩, .slice none 0 0, .slice none 0 0] 32)) := ((Below.refl _ _).alloc (Nat.le_refl _) _).alloc (by simp) _
  have hp1 := heap_first w (.cells #[.int .i64 t.kind, .string t.name, .slice an ln cn, .slice ak lk ck] 32) (.cells #[.int .i64 0, .string ⟨#[]⟩, .slice none 0 0, .slice none 0 0] 32)
  have hr1 := heap_second w (.cells #[.int .i64 t.kind, .string t.name, .slice an ln cn, .slice ak lk ck] 32) (.cells #[.int .i64 0, .string ⟨#[]⟩, .slice none 0 0, .slice none 0 0] 32)
  have HF0 := implFormOf n w _ t 0 _ h.at hW hb (by omega) hc hc.lt
  have HF : Hid (type_of% HF0) := HF0
  have HTO : Hid (∀ (v : Value) (wx : World), FormAt wx n v t → Right n t 12 → Calls Tryd.prog 42 #[v] wx fun e w' => ∃ l, e = .returned (.agg (cellsK t l).toArray) ∧ NewLay wx.heap.size w' n l t ∧ Below wx.heap.size wx w') := fun v wx h1 h2 => implTypeOf n v t 12 wx h1 h2 hb
  have HCO : Hid (∀ wx : World, Below w.heap.size w wx → Calls Tryd.prog 43 #[.agg #[.int .i64 t.kind, .string t.name, .slice an ln cn, .slice ak lk ck]] wx fun e w' => ∃ l, e = .returned (.agg (cellsK t l).toArray) ∧ NewLay wx.heap.size w' n l t ∧ Below wx.heap.size wx w') := fun wx hx => implCopyOf n lo hi _ t wx (h.below hx) (Nat.le_trans hhi hx.size) hb
  clear HF0 h hc hb
  go_enter Tryd.func27, Tryd.ntmps27
  go_wp2_with fail
  have hz1 : w.heap.size + 1 < ((w.alloc (.cells #[.int .i64 t.kind, .string t.name, .slice an ln cn, .slice ak lk ck] 32)).alloc (.cells #[.int .i64 0, .string ⟨#[]⟩, .slice none 0 0, .slice none 0 0] 32)).heap.size := by simp
  generalize ((w.alloc (.cells #[.int .i64 t.kind, .string t.name, .slice an ln cn, .slice ak lk ck] 32)).alloc (.cells #[.int .i64 0, .string ⟨#[]⟩, .slice none 0 0, .slice none 0 0] 32)) = W1 at *
  refine HF.out.mono ?_
  rintro e w3 ⟨v, ok, rfl, hok, hfm, hb3⟩
  have hok' : ok = true ↔ Right n t 12 := by simpa using hok
  have hbw3 : Below w.heap.size w w3 := hW.trans (hb3.mono hW.size)
  have hp3 := (hb3.block w.heap.size (by omega)).trans hp1
  have hr3 := (hb3.block (w.heap.size + 1) hz1).trans hr1
  have hz3 : w.heap.size + 1 < w3.heap.size := Nat.lt_of_lt_of_le hz1 hb3.size
  clear HF hb3 hp1 hr1 hW
  cases ok with
  | true =>
    have hr := hok'.1 rfl
    have HT1 : Hid (type_of% (HTO.out v w3 (hfm rfl).at hr)) := HTO.out v w3 (hfm rfl).at hr
    obtain ⟨T', x', hve⟩ := form_iface (hfm rfl).at
    subst hve
    clear hok hok' hfm HTO HCO hr
    go_wp2_with fail
    refine HT1.out.mono ?_
    rintro e w4 ⟨l, rfl, hl, hb4⟩
    obtain ⟨a1, l1, k1, a2, l2, k2, ec⟩ := lay_slicesF hl.1
    have HC : Hid (type_of% ec) := ec
    rw [ec]
    have HL : Hid (type_of% hl) := hl
    have hbw4 : Below w.heap.size w w4 := hbw3.trans (hb4.mono (by omega))
    obtain ⟨⟨r0, r1, r2, r3⟩, rf⟩ := block4 ((hb4.block (w.heap.size + 1) hz3).trans hr3)
    have rf0 := rf 0
    have rf1 := rf 1
    have rf2 := rf 2
    have rf3 := rf 3
    clear rf hl ec hb4 HT1 hr3
    go_wp2_with fail
    refine ret_fr rfl (put4T fun j hj => ?_) ⟨l, by rw [HC.out], ⟨HL.out.1.same fun b hb => put_other (by have := HL.out.2.2 b hb; omega), HL.out.2.1, fun b hb => by have := HL.out.2.2 b hb; omega⟩, put_below hbw4 (by omega)⟩
    match j, hj with
    | 0, _ => rw [r0]; rfl
    | 1, _ => rw [r1]; rfl
    | 2, _ => rw [r2]; rfl
    | 3, _ => rw [r3]; rfl
  | false =>
    have HT1 : Hid (type_of% (HCO.out w3 hbw3)) := HCO.out w3 hbw3
    obtain ⟨⟨p0, p1, p2, p3⟩, _⟩ := block4 hp3
    clear hok hok' hfm HTO HCO
    go_wp2_with fail
    refine HT1.out.mono ?_
    rintro e w4 ⟨l, rfl, hl, hb4⟩
    obtain ⟨a1, l1, k1, a2, l2, k2, ec⟩ := lay_slicesF hl.1
    have HC : Hid (type_of% ec) := ec
    rw [ec]
    have HL : Hid (type_of% hl) := hl
    have hbw4 : Below w.heap.size w w4 := hbw3.trans (hb4.mono (by omega))
    obtain ⟨⟨r0, r1, r2, r3⟩, rf⟩ := block4 ((hb4.block (w.heap.size + 1) hz3).trans hr3)
    have rf0 := rf 0
    have rf1 := rf 1
    have rf2 := rf 2
    have rf3 := rf 3
    clear rf hl ec hb4 HT1 hr3 p0 p1 p2 p3
    go_wp2_with fail
    refine ret_fr rfl (put4T fun j hj => ?_) ⟨l, by rw [HC.out], ⟨HL.out.1.same fun b hb => put_other (by have := HL.out.2.2 b hb; omega), HL.out.2.1, fun b hb => by have := HL.out.2.2 b hb; omega⟩, put_below hbw4 (by omega)⟩
    match j, hj with
    | 0, _ => rw [r0]; rfl
    | 1, _ => rw [r1]; rfl
    | 2, _ => rw [r2]; rfl
    | 3, _ => rw [r3]; rfl

end Go.Proofs.YtpaamlniicipbaaDoor

namespace Go.Proofs.YtpaamlniicipbaaDoor
open Go.RowKit

/-- where the first of that name stands, or -1 -/
def FirstAt (es : List (ByteArray × Ty)) (nm : ByteArray) (i : Int) : Prop := (∃ k : Nat, i = k ∧ ∃ h : k < es.length, es[k].1 = nm ∧ ∀ j (hj : j < k), (es[j]'(by omega)).1 ≠ nm) ∨ (i = -1 ∧ ∀ j (h : j < es.length), es[j].1 ≠ nm)

set_option maxHeartbeats 800000 in
set_option maxRecDepth 100000 in
theorem lookFn (x nm : ByteArray) (x0 x1 x2 x3 : Value) (P : Nat) (w : World) (hP : w.cell? ⟨P, 0, none⟩ = some (.string nm)) :
    Calls Tryd.prog 26 #[.agg #[.string x, x0, x1, x2, x3], .pointer (some ⟨P, 0, none⟩)] w fun e w' => e = .returned (.bool (x.toList == nm.toList)) ∧ Below w.heap.size w w' := by
  have hPl : P < w.heap.size := World.block_lt_of_cell? w ⟨P, 0, none⟩ hP
  have hB1 : Below w.heap.size w (w.alloc (.cells #[.string x, x0, x1, x2, x3] 47)) := (Below.refl _ _).alloc (Nat.le_refl _) _
  have hP1 := (hB1.cell (p := ⟨P, 0, none⟩) hPl).trans hP
  clear hP
  go_enter Tryd.func26, Tryd.ntmps26
  go_wp2_with fail
  go_ret
  exact ⟨rfl, hB1⟩

set_option maxHeartbeats 1600000 in
set_option maxRecDepth 100000 in
theorem slIndexFunc (n : Nat) (v : Value) (es : List (ByteArray × Ty)) (nm : ByteArray) (P : Nat) (w : World) (hrow : EnvAt w n v es) (hlen : es.length ≤ 1048576) (hP : w.cell? ⟨P, 0, none⟩ = some (.string nm)) :
    Calls Tryd.prog 25 #[v, .func (Fn.func 26) #[] #[.pointer (some ⟨P, 0, none⟩)]] w fun e w' => ∃ i : Int, e = .returned (.int .i64 i) ∧ FirstAt es nm i ∧ Below w.heap.size w w' := by
  obtain ⟨av, capv, rfl, hel⟩ := envOpen hrow
  have HEL : Hid (type_of% hel) := hel
  have hPl : P < w.heap.size := World.block_lt_of_cell? w ⟨P, 0, none⟩ hP
  clear hel hrow
  go_enter Tryd.func25, Tryd.ntmps25
  go_wp2_with fail
  go_loopw [8] (fun i wr => ∃ k : Nat, k ≤ es.length ∧ i = .int .i64 k ∧ (∀ j (h : j < es.length), j < k → es[j].1 ≠ nm) ∧ Below w.heap.size w wr) (fun i _ => es.length - (intOf i).toNat)
  case atStart => exact ⟨0, Nat.zero_le _, rfl, fun j _ h => absurd h (by omega), Below.refl _ _⟩
  case round =>
    obtain ⟨k, hk, rfl, hall, hbe⟩ := hrel
    have HALL : Hid (type_of% hall) := hall
    clear hall
    by_cases hlt : k < es.length
    · obtain ⟨b, off, x0, x1, x2, x3, rfl, hbl, _, hty, q0, q1, q2, q3, q4⟩ := HEL.out k hlt
      have c0 := (hbe.cell (p := ⟨b, off + k * 5, none⟩) hbl).trans q0
      have c1 := (hbe.cell (p := ⟨b, off + k * 5 + 1, none⟩) hbl).trans q1
      have c2 := (hbe.cell (p := ⟨b, off + k * 5 + 2, none⟩) hbl).trans q2
      have c3 := (hbe.cell (p := ⟨b, off + k * 5 + 3, none⟩) hbl).trans q3
      have c4 := (hbe.cell (p := ⟨b, off + k * 5 + 4, none⟩) hbl).trans q4
      have hk0i : (0 : Int) ≤ (k : Int) := by omega
      have hk1i : (k : Int) < (es.length : Int) := by omega
      have HF0 := lookFn es[k].1 nm x0 x1 x2 x3 P wr ((hbe.cell (p := ⟨P, 0, none⟩) hPl).trans hP)
      by_cases he : es[k].1 = nm
      · have HA : Hid (FirstAt es nm k) := .inl ⟨k, rfl, hlt, he, fun j hj => HALL.out j (by omega) hj⟩
        rw [show (es[k].1.toList == nm.toList) = true by rw [he]; exact beq_self_eq_true _] at HF0
        have HF : Hid (type_of% HF0) := HF0
        clear HF0 he q0 q1 q2 q3 q4 hty HALL HEL
        generalize es[k].1 = x at *
        go_wp2_with fail
        refine HF.out.mono ?_
        rintro e w2 ⟨rfl, hb2⟩
        go_wp2_with fail
        go_ret
        exact ⟨k, rfl, HA.out, hbe.trans (hb2.mono hbe.size)⟩
      · have HA2 : Hid (∀ j (h : j < es.length), j < k + 1 → es[j].1 ≠ nm) := fun j hj hjk => by
          by_cases c : j = k
          · subst c; exact he
          · exact HALL.out j hj (by omega)
        rw [eq_no he] at HF0
        have HF : Hid (type_of% HF0) := HF0
        clear HF0 he q0 q1 q2 q3 q4 hty HALL
        generalize es[k].1 = x at *
        go_wp2_with fail
        refine HF.out.mono ?_
        rintro e w2 ⟨rfl, hb2⟩
        go_wp2_with fail
        go_roundw
        case rel => exact ⟨k + 1, by omega, by go_num, HA2.out, hbe.trans (hb2.mono hbe.size)⟩
        case measure => simp [intOf]; omega
    · have HA : Hid (FirstAt es nm (-1)) := .inr ⟨rfl, fun j h => HALL.out j h (by omega)⟩
      clear HALL HEL
      go_wp2_with fail
      go_ret
      exact ⟨-1, rfl, HA.out, hbe⟩

end Go.Proofs.YtpaamlniicipbaaDoor

namespace Go.Proofs.YtpaamlniicipbaaDoor
open Go.RowKit

theorem ret_lkI {R : Ending → World → Prop} {W : World} {tmps : Array Value} {b : Nat} {x0 x1 x2 x3 : Value} {ok : Bool} (hp : tmps[4]?.getD undef = .pointer (some ⟨b, 0, none⟩)) (hq : tmps[5]?.getD undef = .bool ok)
    (h : W.cell? ⟨b, 0, none⟩ = some x0 ∧ W.cell? ⟨b, 1, none⟩ = some x1 ∧ W.cell? ⟨b, 2, none⟩ = some x2 ∧ W.cell? ⟨b, 3, none⟩ = some x3) (hR : R (.returned (.tuple #[.agg #[x0, x1, x2, x3], .bool ok])) W) :
    bodyPost Tryd.prog Tryd.f11 R .ret { tmps := tmps, defers := [] } W := by
  obtain ⟨h0, h1, h2, h3⟩ := h
  refine bodyPost_ret (v := .tuple #[.agg #[x0, x1, x2, x3], .bool ok]) ?_ rfl hR
  simp [results, Tryd.results11, go_sem, hp, hq, h0, h1, h2, h3]

set_option maxHeartbeats 1600000 in
set_option maxRecDepth 100000 in
theorem implLookup (n lo hi : Nat) (v : Value) (es : List (ByteArray × Ty)) (nm : ByteArray) (w : World) (hrow : EnvIn w (n + 1) lo hi v es) (hhi : hi ≤ w.heap.size) (hb : envBulk (n + 1) es ≤ 1048576) (hc : ClsIs w) :
    Calls Tryd.prog 11 #[v, .string nm] w fun e w' => ∃ (l : Lay) (t : Ty) (ok : Bool), e = .returned (.tuple #[.agg (cellsK t l).toArray, .bool ok]) ∧ LookAns es nm t ok ∧ NewLay w.heap.size w' (n + 1) l t ∧ Below w.heap.size w w' := by
  have hat := hrow.at
  obtain ⟨b, capv, rfl, hlb, hbh, _, L, hL1, hL2, hL3⟩ := hrow
  have hlen : es.length ≤ 1048576 := by unfold envBulk at hb; omega
  have hbw : b < w.heap.size := by omega
  have HEL : Hid (∀ k (h : k < es.length), ∃ x0 x1 x2 x3, TyIn w (n + 1) (L k) (L (k + 1)) [x0, x1, x2, x3] es[k].2 ∧ w.cell? ⟨b, k * 5 + 1, none⟩ = some x0 ∧ w.cell? ⟨b, k * 5 + 2, none⟩ = some x1 ∧ w.cell? ⟨b, k * 5 + 3, none⟩ = some x2 ∧ w.cell? ⟨b, k * 5 + 4, none⟩ = some x3) := fun k h => by
    obtain ⟨_, cs, h1, _, h2⟩ := hL3 k h
    have hl := h1.len
    match cs, hl with
    | [x0, x1, x2, x3], _ => exact ⟨x0, x1, x2, x3, h1, h2 0 x0 rfl, h2 1 x1 rfl, h2 2 x2 rfl, h2 3 x3 rfl⟩
  have HLH : Hid (∀ k, k < es.length → L (k + 1) ≤ w.heap.size) := fun k hk => by have := (hL1 (k + 1) (by omega)).2; omega
  have hB2 : Below w.heap.size w ((w.alloc (.cells #[.string nm] 9)).alloc (.cells #[.int .i64 0, .string ⟨#[]⟩, .slice none 0 0, .slice none 0 0] 32)) := ((Below.refl _ _).alloc (Nat.le_refl _) _).alloc (by simp) _
  have hP1 : ((w.alloc (.cells #[.string nm] 9)).alloc (.cells #[.int .i64 0, .string ⟨#[]⟩, .slice none 0 0, .slice none 0 0] 32)).cell? ⟨w.heap.size, 0, none⟩ = some (.string nm) := by
    rw [cell_of_row _ _ _ _ _ _ (heap_first w _ _)]; rfl
  have hR1 := heap_second w (.cells #[.string nm] 9) (.cells #[.int .i64 0, .string ⟨#[]⟩, .slice none 0 0, .slice none 0 0] 32)
  have HX : Hid (type_of% (slIndexFunc (n + 1) _ es nm w.heap.size _ (hat.below hB2) hlen hP1)) := slIndexFunc (n + 1) _ es nm w.heap.size _ (hat.below hB2) hlen hP1
  have HFR : Hid (∀ k (hk : k < es.length) (cs : List Value) (wx : World), Below w.heap.size w wx → TyIn w (n + 1) (L k) (L (k + 1)) cs es[k].2 → Calls Tryd.prog 27 #[.agg cs.toArray] wx fun e w' => ∃ l, e = .returned (.agg (cellsK es[k].2 l).toArray) ∧ NewLay wx.heap.size w' (n + 1) l es[k].2 ∧ Below wx.heap.size wx w') := fun k hk cs wx hx ht => implFreshOf (n + 1) _ _ cs _ wx (ht.below hx) (Nat.le_trans (HLH.out k hk) hx.size) (by have := env_bulk (n + 1) es k hk; omega) (hc.below hx hc.lt)
  have hz2 : w.heap.size + 1 < ((w.alloc (.cells #[.string nm] 9)).alloc (.cells #[.int .i64 0, .string ⟨#[]⟩, .slice none 0 0, .slice none 0 0] 32)).heap.size := by simp
  clear hat hL1 hL2 hL3 hc hb hP1
  go_enter Tryd.func11, Tryd.ntmps11
  go_wp2_with fail
  generalize ((w.alloc (.cells #[.string nm] 9)).alloc (.cells #[.int .i64 0, .string ⟨#[]⟩, .slice none 0 0, .slice none 0 0] 32)) = W1 at *
  refine HX.out.mono ?_
  rintro e w2 ⟨i, rfl, hi, hb2⟩
  have hbw2 : Below w.heap.size w w2 := hB2.trans (hb2.mono hB2.size)
  have hr2 := (hb2.block (w.heap.size + 1) hz2).trans hR1
  have hz3 : w.heap.size + 1 < w2.heap.size := Nat.lt_of_lt_of_le hz2 hb2.size
  clear HX hb2 hR1 hB2
  rcases hi with ⟨k, rfl, hk, he, hall⟩ | ⟨rfl, hall⟩
  · obtain ⟨x0, x1, x2, x3, hty, q1, q2, q3, q4⟩ := HEL.out k hk
    have c1 := (hbw2.cell (p := ⟨b, k * 5 + 1, none⟩) hbw).trans q1
    have c2 := (hbw2.cell (p := ⟨b, k * 5 + 2, none⟩) hbw).trans q2
    have c3 := (hbw2.cell (p := ⟨b, k * 5 + 3, none⟩) hbw).trans q3
    have c4 := (hbw2.cell (p := ⟨b, k * 5 + 4, none⟩) hbw).trans q4
    have HF : Hid (type_of% (HFR.out k hk _ w2 hbw2 hty)) := HFR.out k hk _ w2 hbw2 hty
    have HA : Hid (LookAns es nm es[k].2 true) := .inl ⟨rfl, k, hk, he, hall, rfl⟩
    have hk0i : (0 : Int) ≤ (k : Int) := by omega
    have hk1i : (k : Int) < (es.length : Int) := by omega
    have hneg : ¬ (k : Int) < 0 := by omega
    clear q1 q2 q3 q4 hty HFR HEL HLH he hall
    go_wp2_with fail
    refine HF.out.mono ?_
    rintro e w4 ⟨l, rfl, hl, hb4⟩
    obtain ⟨a1, l1, k1, a2, l2, k2, ec⟩ := lay_slicesF hl.1
    have HC : Hid (type_of% ec) := ec
    rw [ec]
    have HL : Hid (type_of% hl) := hl
    have hbw4 : Below w.heap.size w w4 := hbw2.trans (hb4.mono (by omega))
    obtain ⟨⟨r0, r1, r2, r3⟩, rf⟩ := block4 ((hb4.block (w.heap.size + 1) hz3).trans hr2)
    have rf0 := rf 0
    have rf1 := rf 1
    have rf2 := rf 2
    have rf3 := rf 3
    clear rf hl ec hb4 HF hr2 c1 c2 c3 c4
    go_wp2_with fail
    refine ret_lkI rfl rfl (put4T fun j hj => ?_) ⟨l, es[k].2, true, by rw [HC.out], HA.out, ⟨HL.out.1.same fun b hb => put_other (by have := HL.out.2.2 b hb; omega), HL.out.2.1, fun b hb => by have := HL.out.2.2 b hb; omega⟩, put_below hbw4 (by omega)⟩
    match j, hj with
    | 0, _ => rw [r0]; rfl
    | 1, _ => rw [r1]; rfl
    | 2, _ => rw [r2]; rfl
    | 3, _ => rw [r3]; rfl
  · have HA : Hid (LookAns es nm (.mk 0 ⟨#[]⟩ [] []) false) := .inr ⟨rfl, rfl, hall⟩
    obtain ⟨⟨r0, r1, r2, r3⟩, rf⟩ := block4 hr2
    have rf0 := rf 0
    have rf1 := rf 1
    have rf2 := rf 2
    have rf3 := rf 3
    clear rf hr2 HFR HEL HLH hall
    go_wp2_with fail
    refine ret_lkI rfl rfl (put4T fun j hj => ?_) ⟨.mk (.slice none 0 0) (.slice none 0 0) [], .mk 0 ⟨#[]⟩ [] [], false, rfl, HA.out, zeroLayL, put_below hbw2 (by omega)⟩
    match j, hj with
    | 0, _ => rw [r0]; rfl
    | 1, _ => rw [r1]; rfl
    | 2, _ => rw [r2]; rfl
    | 3, _ => rw [r3]; rfl

end Go.Proofs.YtpaamlniicipbaaDoor

namespace Go.Proofs.YtpaamlniicipbaaDoor
open Go.RowKit

/-- some cells of a block are written, and new blocks are laid: what is as it was -/
structure Tw (b : Nat) (O : Nat → Prop) (w w' : World) : Prop where
  cell : ∀ p, ¬ O p → w'.cell? ⟨b, p, none⟩ = w.cell? ⟨b, p, none⟩
  frozen : ∀ p, w'.frozen? ⟨b, p, none⟩ = w.frozen? ⟨b, p, none⟩
  block : ∀ c, c ≠ b → c < w.heap.size → w'.heap[c]? = w.heap[c]?
  size : w.heap.size ≤ w'.heap.size
  only : ∀ lo hi, lo ≤ b → b < hi → Only lo hi w w'
theorem Tw.trans {b : Nat} {O : Nat → Prop} {a c d : World} (h : Tw b O a c) (k : Tw b O c d) : Tw b O a d := ⟨fun p hp => (k.cell p hp).trans (h.cell p hp), fun p => (k.frozen p).trans (h.frozen p), fun x hx hl => (k.block x hx (Nat.lt_of_lt_of_le hl h.size)).trans (h.block x hx hl), Nat.le_trans h.size k.size, fun lo hi h1 h2 => (h.only lo hi h1 h2).trans (k.only lo hi h1 h2)⟩
theorem Tw.below {b : Nat} {O : Nat → Prop} {w w' : World} (hb : b < w.heap.size) (h : Below w.heap.size w w') : Tw b O w w' := ⟨fun p _ => h.cell (p := ⟨b, p, none⟩) hb, fun p => h.frozen (p := ⟨b, p, none⟩) hb, fun c _ hl => h.block c hl, h.size, fun _ _ _ _ => Only.of_below h⟩
theorem Tw.set {b o : Nat} {O : Nat → Prop} (w : World) (u : Value) (ho : O o) : Tw b O w (w.setCell ⟨b, o, none⟩ u) := ⟨fun p hp => set_other (fun e => hp (e ▸ ho)), fun p => World.frozen?_setCell .., fun c hc _ => Below.heap_setCell _ _ _ _ (by simpa using hc), by simp, fun lo hi h1 h2 => Only.set _ _ _ ⟨h1, h2⟩⟩

theorem envBulk_more (n : Nat) (es : List (ByteArray × Ty)) (k : Nat) (h : k < es.length) : envBulk n (es.take (k + 1)) = envBulk n (es.take k) + 1 + (es[k].1.size + Ty.bulk n es[k].2) := by
  have := envSum_more n es k h
  unfold nmBulk at this
  unfold envBulk nmBulk
  rw [this, List.length_take, List.length_take]
  omega
theorem envBulk_le (n : Nat) (es : List (ByteArray × Ty)) (k : Nat) : envBulk n (es.take k) ≤ envBulk n es := by
  have := envSum_le n es k
  unfold envBulk
  rw [List.length_take]
  omega

set_option maxHeartbeats 1600000 in
set_option maxRecDepth 100000 in
theorem lawsMarkEnv (n : Nat) (v : Value) (es : List (ByteArray × Ty)) (lo hi k0 : Nat) (w : World) (hrow : EnvIn w n lo hi v es) (hhi : hi ≤ w.heap.size) (hbk : envBulk n es ≤ 1048576) (hk1 : 1 ≤ k0) (hk2 : k0 + 3 * envBulk n es ≤ 1000000000) :
    Calls Tryd.prog 13 #[v, .int .i64 k0] w fun e w' => ∃ k : Nat, e = .returned (.int .i64 k) ∧ k0 ≤ k ∧ k ≤ k0 + 3 * envBulk n es ∧ Only lo hi w w' := by
  obtain ⟨b, cap, rfl, g1, g2, g0, L, g3, g4, g5⟩ := hrow
  have hkl : es.length ≤ 1048576 := by unfold envBulk at hbk; omega
  have H3 : Hid (type_of% g3) := g3
  have H4 : Hid (type_of% g4) := g4
  have H5 : Hid (∀ q (h : q < es.length), 0 ≤ q → ∃ cs, TyIn w n (L q) (L (q + 1)) cs es[q].2 ∧ w.cell? ⟨b, q * 5, none⟩ = some (.string es[q].1) ∧ ∀ c u, cs[c]? = some u → w.cell? ⟨b, q * 5 + 1 + c, none⟩ = some u) := fun q h _ => (g5 q h).2
  clear g3 g4 g5
  go_enter Tryd.func13, Tryd.ntmps13
  go_wp2_with fail
  go_loopw [1, 5] (fun kv i wr => ∃ j kk : Nat, j ≤ es.length ∧ i = .int .i64 j ∧ kv = .int .i64 kk ∧ k0 ≤ kk ∧ kk ≤ k0 + 3 * envBulk n (es.take j) ∧ Only lo hi w wr ∧ (∀ o, wr.frozen? ⟨b, o, none⟩ = false) ∧ ∀ q (h : q < es.length), j ≤ q → ∃ cs, TyIn wr n (L q) (L (q + 1)) cs es[q].2 ∧ wr.cell? ⟨b, q * 5, none⟩ = some (.string es[q].1) ∧ ∀ c u, cs[c]? = some u → wr.cell? ⟨b, q * 5 + 1 + c, none⟩ = some u) (fun _ i _ => es.length - (intOf i).toNat)
  case atStart => exact ⟨0, k0, Nat.zero_le _, rfl, rfl, Nat.le_refl _, by omega, Only.refl _ _ _, frozen_row g0, H5.out⟩
  case round =>
    obtain ⟨j, kk, hj, rfl, rfl, hkk1, hkk2, hon, hcl, hrest⟩ := hrel
    have HR : Hid (type_of% hrest) := hrest
    clear hrest H5 g0
    by_cases hlt : j < es.length
    · obtain ⟨cs, hty, a0, hce⟩ := HR.out j hlt (Nat.le_refl _)
      have hL1 := H3.out j (by omega)
      have hL2 := H3.out (j + 1) (by omega)
      have hmore := envBulk_more n es j hlt
      have hle := envBulk_le n es (j + 1)
      cases n with
      | zero => exact hty.elim
      | succ m =>
        obtain ⟨vn, vk, mid, rfl, _, _, ⟨hnm, _, _⟩, _, hmid, hkids⟩ := hty
        have a1 : wr.cell? ⟨b, j * 5 + 1, none⟩ = some (.int .i64 es[j].2.kind) := hce 0 _ rfl
        have a2 : wr.cell? ⟨b, j * 5 + 2, none⟩ = some (.string es[j].2.name) := hce 1 _ rfl
        have a3 : wr.cell? ⟨b, j * 5 + 3, none⟩ = some vn := hce 2 _ rfl
        have a4 : wr.cell? ⟨b, j * 5 + 4, none⟩ = some vk := hce 3 _ rfl
        have hbk2 : t_bulk es[j].2 m := by unfold t_bulk; rw [Ty.bulk]; unfold rowBulk; omega
        unfold t_bulk at hbk2
        have hbw : b < wr.heap.size := Nat.lt_of_lt_of_le (by omega) hon.size
        have hmh : mid < L (j + 1) := by obtain ⟨x, _, _, h7, h8, _⟩ := hkids; omega
        have hwz : w.heap.size ≤ wr.heap.size := hon.size
        have HM1 : Hid (∀ wx : World, Calls Tryd.prog 30 #[.int .i64 (kk : Int)] wx fun e w' => e = .returned (.string (markB kk)) ∧ Below wx.heap.size wx w') := fun wx => lawsMark kk wx (by omega) (by omega)
        have HM2 : Hid (∀ wx : World, Calls Tryd.prog 30 #[.int .i64 ((kk : Int) + 1 + 1)] wx fun e w' => e = .returned (.string (markB (kk + 2))) ∧ Below wx.heap.size wx w') := fun wx => by
          have := lawsMark (kk + 2) wx (by omega) (by omega)
          rw [show (((kk + 2 : Nat)) : Int) = (kk : Int) + 1 + 1 from by omega] at this
          exact this
        have HNM : Hid (NamesIn wr (L j) mid vn es[j].2.names) := hnm
        have HKD : Hid (RowIn wr (TyIn wr m) mid (L (j + 1)) vk es[j].2.kids) := hkids
        have HREST : Hid (∀ q (h : q < es.length), j + 1 ≤ q → (L (j + 1) ≤ L q ∧ L (q + 1) ≤ hi) ∧ ∃ cs, TyIn wr (m + 1) (L q) (L (q + 1)) cs es[q].2 ∧ wr.cell? ⟨b, q * 5, none⟩ = some (.string es[q].1) ∧ ∀ c u, cs[c]? = some u → wr.cell? ⟨b, q * 5 + 1 + c, none⟩ = some u) := fun q h hq => ⟨⟨H4.out _ _ hq (by omega), (H3.out (q + 1) (by omega)).2⟩, HR.out q h (by omega)⟩
        generalize markB kk = V1 at *
        generalize markB (kk + 2) = V2 at *
        clear hnm hkids hce HR
        obtain ⟨an, cn, hvn⟩ := slice_ownM HNM.out.1
        obtain ⟨bk, ck, hvk⟩ : ∃ bk ck, vk = .slice (some ⟨bk, 0, none⟩) es[j].2.kids.length ck := by obtain ⟨x, c, e, _⟩ := HKD.out; exact ⟨x, c, e⟩
        subst hvn hvk
        go_wp2_with fail
        refine (HM1.out _).mono ?_
        rintro e w1 ⟨rfl, hb1⟩
        have T1 : Tw b (fun o => o = j * 5 ∨ o = j * 5 + 1 ∨ o = j * 5 + 2) wr w1 := Tw.below hbw hb1
        have A0 := (T1.cell (j * 5 + 4) (by omega)).trans a4
        have p0 := (hb1.cell (p := ⟨b, j * 5, none⟩) hbw).trans a0
        have p1 := (hb1.cell (p := ⟨b, j * 5 + 1, none⟩) hbw).trans a1
        have p2 := (hb1.cell (p := ⟨b, j * 5 + 2, none⟩) hbw).trans a2
        have f0 := (T1.frozen (j * 5)).trans (hcl _)
        have f1 := (T1.frozen (j * 5 + 1)).trans (hcl _)
        have f2 := (T1.frozen (j * 5 + 2)).trans (hcl _)
        have T2 := T1.trans ((Tw.set w1 (.string V1) (.inl rfl)).trans (Tw.set _ (.int .i64 ((kk : Int) + 1)) (.inr (.inl rfl))))
        clear A0 a0 a1 a2
        go_wp2_with fail
        have hz2 : b < ((w1.setCell ⟨b, j * 5, none⟩ (.string V1)).setCell ⟨b, j * 5 + 1, none⟩ (.int .i64 ((kk : Int) + 1))).heap.size := Nat.lt_of_lt_of_le hbw T2.size
        have P2 : ((w1.setCell ⟨b, j * 5, none⟩ (.string V1)).setCell ⟨b, j * 5 + 1, none⟩ (.int .i64 ((kk : Int) + 1))).cell? ⟨b, j * 5 + 2, none⟩ = some (.string es[j].2.name) := by
          rw [set_other (by omega), set_other (by omega)]; exact p2
        generalize ((w1.setCell ⟨b, j * 5, none⟩ (.string V1)).setCell ⟨b, j * 5 + 1, none⟩ (.int .i64 ((kk : Int) + 1))) = W2 at *
        refine (HM2.out _).mono ?_
        rintro e w3 ⟨rfl, hb3⟩
        have T3 := T2.trans (Tw.below hz2 hb3)
        have Q2 := (hb3.cell (p := ⟨b, j * 5 + 2, none⟩) hz2).trans P2
        have F2 := (T3.frozen (j * 5 + 2)).trans (hcl _)
        have T4 := T3.trans (Tw.set w3 (.string V2) (.inr (.inr rfl)))
        have c3 := (T4.cell (j * 5 + 3) (by omega)).trans a3
        have c4 := (T4.cell (j * 5 + 4) (by omega)).trans a4
        have HN3 := HNM.out.same (w' := w3.setCell ⟨b, j * 5 + 2, none⟩ (.string V2)) (fun x h1 h2 => T4.block x (by omega) (by omega))
        have HC0 := lawsMarkN _ es[j].2.names.length (L j) (L j) mid (kk + 3) _ _ HN3.1 (fun g hg => ⟨(HN3.1.lt g hg).1, HN3.2 g hg⟩) (by omega) (by omega) (by omega)
        rw [show (((kk + 3 : Nat)) : Int) = (kk : Int) + 1 + 1 + 1 from by omega] at HC0
        have HC : Hid (type_of% HC0) := HC0
        have HT4 : Hid (type_of% T4) := T4
        clear HC0 HN3 HM1 HM2 T1 T2 T3 T4 p0 p1 p2 P2 hb1 hb3
        go_wp2_with fail
        have hz4' := HT4.out.size
        refine HC.out.mono ?_
        rintro e w4 ⟨rfl, _, on4⟩
        have hb4 : w4.heap[b]? = (w3.setCell ⟨b, j * 5 + 2, none⟩ (.string V2)).heap[b]? := on4.block b (by omega) (.inl (by omega))
        have d4 : w4.cell? ⟨b, j * 5 + 4, none⟩ = some (.slice (some ⟨bk, 0, none⟩) es[j].2.kids.length ck) := cell_same c4 hb4
        have hsame : ∀ x, mid ≤ x → x < wr.heap.size → x ≠ b → w4.heap[x]? = wr.heap[x]? := fun x h1 h2 h3 => (on4.block x (by omega) (.inr h1)).trans (HT4.out.block x h3 h2)
        have HK4 : Hid (RowIn w4 (TyIn w4 m) mid (L (j + 1)) (.slice (some ⟨bk, 0, none⟩) es[j].2.kids.length ck) es[j].2.kids) := HKD.out.same (fun x h1 h2 => hsame x (by omega) (by omega) (by omega)) fun lo' hi' cs t h1 h2 h => h.same fun x h3 h4 => hsame x (by omega) (by omega) (by omega)
        have hz4 : wr.heap.size ≤ w4.heap.size := Nat.le_trans hz4' on4.size
        have HC5 := lawsMarkRow m _ _ mid (L (j + 1)) (kk + 3 + es[j].2.names.length) w4 HK4.out (by omega) (by omega) (by omega) (by omega)
        rw [show (((kk + 3 + es[j].2.names.length : Nat)) : Int) = (kk : Int) + 1 + 1 + 1 + es[j].2.names.length from by omega] at HC5
        have HC6 : Hid (type_of% HC5) := HC5
        clear HC5 HC HK4
        go_wp2_with fail
        refine HC6.out.mono ?_
        rintro e w5 ⟨k5, rfl, hk51, hk52, on5⟩
        have R1 : Only lo hi w w5 := ((hon.trans (HT4.out.only lo hi g1 g2)).trans (on4.mono (by omega) (by omega))).trans (on5.mono (by omega) (by omega))
        have hb5 : w5.heap[b]? = (w3.setCell ⟨b, j * 5 + 2, none⟩ (.string V2)).heap[b]? := (on5.block b (by omega) (.inl (by omega))).trans hb4
        have R2 : ∀ o, w5.frozen? ⟨b, o, none⟩ = false := fun o => (frozen_same o hb5).trans ((HT4.out.frozen o).trans (hcl o))
        have R3 : ∀ q (h : q < es.length), j + 1 ≤ q → ∃ cs, TyIn w5 (m + 1) (L q) (L (q + 1)) cs es[q].2 ∧ w5.cell? ⟨b, q * 5, none⟩ = some (.string es[q].1) ∧ ∀ c u, cs[c]? = some u → w5.cell? ⟨b, q * 5 + 1 + c, none⟩ = some u := fun q h hq => by
          obtain ⟨⟨r1, r2⟩, cs, r3, r0, r4⟩ := HREST.out q h hq
          refine ⟨cs, r3.same fun x h1 h2 => ?_, ?_, fun c u hu => ?_⟩
          · exact (on5.block x (by omega) (.inr (by omega))).trans (hsame x (by omega) (by omega) (by omega))
          · exact cell_same ((HT4.out.cell _ (by omega)).trans r0) hb5
          · exact cell_same ((HT4.out.cell _ (by omega)).trans (r4 c u hu)) hb5
        have HR3 : Hid (type_of% R3) := R3
        have hkb : k5 ≤ k0 + 3 * envBulk (m + 1) (es.take (j + 1)) := by omega
        clear on4 on5 HREST HKD HNM R3 HC6 c3 c4 d4 HT4 hsame hb4 hb5
        go_wp2_with fail
        go_roundw
        case rel => exact ⟨j + 1, k5, by omega, by go_num, rfl, by omega, hkb, R1, R2, HR3.out⟩
        case measure => simp [intOf]; omega
    · have hke : j = es.length := by omega
      rw [hke, List.take_of_length_le (Nat.le_refl _)] at hkk2
      clear HR
      go_wp2_with fail
      go_ret
      exact ⟨kk, rfl, hkk1, hkk2, hon⟩

end Go.Proofs.YtpaamlniicipbaaDoor

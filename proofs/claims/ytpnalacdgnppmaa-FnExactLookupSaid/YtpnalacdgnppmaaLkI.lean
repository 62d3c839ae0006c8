/-
  The walk of impl.Lookup.
-/
import Derived.Test.YtpnalacdgnppmaaCqX
import Derived.Test.YtpnalacdgnppmaaLkX
import Derived.Test.YtpnalacdgnppmaaNmTo
namespace Go.Proofs.Ytpnalacdgnppmaa
open Go.RowKit

theorem lay_slicesF {w : World} {n : Nat} {l : Lay} {t : Ty} (h : LayAt w n l t) : ∃ an ln cn ak lk ck, cellsK t l = [.int .i64 t.kind, .string t.name, .slice an ln cn, .slice ak lk ck] := by
  cases n with
  | zero => exact h.elim
  | succ n =>
    obtain ⟨a, c, e⟩ := h.1.slice
    obtain ⟨a', c', e'⟩ := h.2.2.1.slice
    exact ⟨a, _, c, a', _, c', by unfold cellsK; rw [e, e']⟩
theorem ret_lkI {R : Ending → World → Prop} {W : World} {tmps : Array Value} {b : Nat} {x0 x1 x2 x3 : Value} {ok : Bool} (hp : tmps[4]?.getD undef = .pointer (some ⟨b, 0, none⟩)) (hq : tmps[5]?.getD undef = .bool ok)
    (h : W.cell? ⟨b, 0, none⟩ = some x0 ∧ W.cell? ⟨b, 1, none⟩ = some x1 ∧ W.cell? ⟨b, 2, none⟩ = some x2 ∧ W.cell? ⟨b, 3, none⟩ = some x3) (hR : R (.returned (.tuple #[.agg #[x0, x1, x2, x3], .bool ok])) W) :
    bodyPost Try.prog Try.f7 R .ret { tmps := tmps, defers := [] } W := by
  obtain ⟨h0, h1, h2, h3⟩ := h
  refine bodyPost_ret (v := .tuple #[.agg #[x0, x1, x2, x3], .bool ok]) ?_ rfl hR
  simp [results, Try.results7, go_sem, hp, hq, h0, h1, h2, h3]

set_option maxHeartbeats 1600000 in
set_option maxRecDepth 100000 in
theorem implLookup (n lo hi : Nat) (v : Value) (es : List (ByteArray × Ty)) (nm : ByteArray) (w : World) (hrow : EnvIn w (n + 1) lo hi v es) (hhi : hi ≤ w.heap.size) (hb : envBulk (n + 1) es ≤ 1048576) :
    Calls Try.prog 7 #[v, .string nm] w fun e w' => ∃ (l : Lay) (t : Ty) (ok : Bool), e = .returned (.tuple #[.agg (cellsK t l).toArray, .bool ok]) ∧ LookAns es nm t ok ∧ NewLay w.heap.size w' (n + 1) l t ∧ Below w.heap.size w w' := by
  have hat := hrow.at
  obtain ⟨b, capv, rfl, hlb, hbh, _, L, hL1, hL2, hL3⟩ := hrow
  have hlen : es.length ≤ 1048576 := by unfold envBulk at hb; omega
  have hbw : b < w.heap.size := by omega
  have HEL : Hid (∀ k (h : k < es.length), ∃ x0 x1 x2 x3, TyIn w (n + 1) (L k) (L (k + 1)) [x0, x1, x2, x3] es[k].2 ∧ w.cell? ⟨b, k * 5 + 1, none⟩ = some x0 ∧ w.cell? ⟨b, k * 5 + 2, none⟩ = some x1 ∧ w.cell? ⟨b, k * 5 + 3, none⟩ = some x2 ∧ w.cell? ⟨b, k * 5 + 4, none⟩ = some x3) := fun k h => by
    obtain ⟨_, cs, h1, _, h2⟩ := hL3 k h
    have hl := h1.len
    match cs, hl with
    | [x0, x1, x2, x3], _ => exact ⟨x0, x1, x2, x3, h1, h2 0 x0 rfl, h2 1 x1 rfl, h2 2 x2 rfl, h2 3 x3 rfl⟩
  have HLH : Hid (∀ k, k < es.length → L (k + 1) ≤ w.heap.size) := fun k hk => by have := (hL1 (k + 1) (by omega)).2; omega
  have hB2 : Below w.heap.size w ((w.alloc (.cells #[.string nm] 9)).alloc (.cells #[.int .i64 0, .string ⟨#[]⟩, .slice none 0 0, .slice none 0 0] 27)) := ((Below.refl _ _).alloc (Nat.le_refl _) _).alloc (by simp) _
  have hP1 : ((w.alloc (.cells #[.string nm] 9)).alloc (.cells #[.int .i64 0, .string ⟨#[]⟩, .slice none 0 0, .slice none 0 0] 27)).cell? ⟨w.heap.size, 0, none⟩ = some (.string nm) := by
    rw [cell_of_row _ _ _ _ _ _ (heap_first w _ _)]; rfl
  have hR1 := heap_second w (.cells #[.string nm] 9) (.cells #[.int .i64 0, .string ⟨#[]⟩, .slice none 0 0, .slice none 0 0] 27)
  have HX : Hid (type_of% (slIndexFunc (n + 1) _ es nm w.heap.size _ (hat.below hB2) hlen hP1)) := slIndexFunc (n + 1) _ es nm w.heap.size _ (hat.below hB2) hlen hP1
  have HFR : Hid (∀ k (hk : k < es.length) (cs : List Value) (wx : World), Below w.heap.size w wx → TyIn w (n + 1) (L k) (L (k + 1)) cs es[k].2 → Calls Try.prog 18 #[.agg cs.toArray] wx fun e w' => ∃ l, e = .returned (.agg (cellsK es[k].2 l).toArray) ∧ NewLay wx.heap.size w' (n + 1) l es[k].2 ∧ Below wx.heap.size wx w') := fun k hk cs wx hx ht => implCopyOf (n + 1) _ _ cs _ wx (ht.below hx) (Nat.le_trans (HLH.out k hk) hx.size) (by have := env_bulk (n + 1) es k hk; omega)
  have hz2 : w.heap.size + 1 < ((w.alloc (.cells #[.string nm] 9)).alloc (.cells #[.int .i64 0, .string ⟨#[]⟩, .slice none 0 0, .slice none 0 0] 27)).heap.size := by simp
  clear hat hL1 hL2 hL3 hb hP1
  go_enter Try.func7, Try.ntmps7
  go_wp2_with fail
  generalize ((w.alloc (.cells #[.string nm] 9)).alloc (.cells #[.int .i64 0, .string ⟨#[]⟩, .slice none 0 0, .slice none 0 0] 27)) = W1 at *
  refine HX.out.mono ?_
  rintro e w2 ⟨i, rfl, hi, hb2⟩
  have hbw2 : Below w.heap.size w w2 := hB2.trans (hb2.mono hB2.size)
  have hr2 := (hb2.block (w.heap.size + 1) hz2).trans hR1
  have hz3 : w.heap.size + 1 < w2.heap.size := Nat.lt_of_lt_of_le hz2 hb2.size
  clear HX hb2 hR1 hB2
  rcases hi with ⟨k, rfl, hk, he, hall⟩ | ⟨rfl, hall⟩
  · obtain ⟨x0, x1, x2, x3, hty, q1, q2, q3, q4⟩ := HEL.out k hk
    have c1 := (hbw2.cell (p := ⟨b, k * 5 + 1, none⟩) hbw).trans q1
    have c2 := (hbw2.cell (p := ⟨b, k * 5 + 2, none⟩) hbw).trans q2
    have c3 := (hbw2.cell (p := ⟨b, k * 5 + 3, none⟩) hbw).trans q3
    have c4 := (hbw2.cell (p := ⟨b, k * 5 + 4, none⟩) hbw).trans q4
    have HF : Hid (type_of% (HFR.out k hk _ w2 hbw2 hty)) := HFR.out k hk _ w2 hbw2 hty
    have HA : Hid (LookAns es nm es[k].2 true) := .inl ⟨rfl, k, hk, he, hall, rfl⟩
    have hk0i : (0 : Int) ≤ (k : Int) := by omega
    have hk1i : (k : Int) < (es.length : Int) := by omega
    have hneg : ¬ (k : Int) < 0 := by omega
    clear q1 q2 q3 q4 hty HFR HEL HLH he hall
    go_wp2_with fail
    refine HF.out.mono ?_
    rintro e w4 ⟨l, rfl, hl, hb4⟩
    obtain ⟨a1, l1, k1, a2, l2, k2, ec⟩ := lay_slicesF hl.1
    have HC : Hid (type_of% ec) := ec
    rw [ec]
    have HL : Hid (type_of% hl) := hl
    have hbw4 : Below w.heap.size w w4 := hbw2.trans (hb4.mono (by omega))
    obtain ⟨⟨r0, r1, r2, r3⟩, rf⟩ := block4 ((hb4.block (w.heap.size + 1) hz3).trans hr2)
    have rf0 := rf 0
    have rf1 := rf 1
    have rf2 := rf 2
    have rf3 := rf 3
    clear rf hl ec hb4 HF hr2 c1 c2 c3 c4
    go_wp2_with fail
    refine ret_lkI rfl rfl (put4T fun j hj => ?_) ⟨l, es[k].2, true, by rw [HC.out], HA.out, ⟨HL.out.1.same fun b hb => put_other (by have := HL.out.2.2 b hb; omega), HL.out.2.1, fun b hb => by have := HL.out.2.2 b hb; omega⟩, put_below hbw4 (by omega)⟩
    match j, hj with
    | 0, _ => rw [r0]; rfl
    | 1, _ => rw [r1]; rfl
    | 2, _ => rw [r2]; rfl
    | 3, _ => rw [r3]; rfl
  · have HA : Hid (LookAns es nm (.mk 0 ⟨#[]⟩ [] []) false) := .inr ⟨rfl, rfl, hall⟩
    obtain ⟨⟨r0, r1, r2, r3⟩, rf⟩ := block4 hr2
    have rf0 := rf 0
    have rf1 := rf 1
    have rf2 := rf 2
    have rf3 := rf 3
    clear rf hr2 HFR HEL HLH hall
    go_wp2_with fail
    refine ret_lkI rfl rfl (put4T fun j hj => ?_) ⟨.mk (.slice none 0 0) (.slice none 0 0) [], .mk 0 ⟨#[]⟩ [] [], false, rfl, HA.out, zeroLayL, put_below hbw2 (by omega)⟩
    match j, hj with
    | 0, _ => rw [r0]; rfl
    | 1, _ => rw [r1]; rfl
    | 2, _ => rw [r2]; rfl
    | 3, _ => rw [r3]; rfl

end Go.Proofs.Ytpnalacdgnppmaa

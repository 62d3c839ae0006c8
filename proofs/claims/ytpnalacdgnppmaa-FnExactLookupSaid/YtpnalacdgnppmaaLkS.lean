/-
  The walk of spec.Lookup.
-/
import Derived.Test.YtpnalacdgnppmaaLkD
import Derived.Test.YtpnalacdgnppmaaCopyS
namespace Go.Proofs.Ytpnalacdgnppmaa
open Go.RowKit

theorem ret_lkS {R : Ending → World → Prop} {W : World} {tmps : Array Value} {b : Nat} {x0 x1 x2 x3 : Value} {ok : Bool} (hp : tmps[4]?.getD undef = .pointer (some ⟨b, 0, none⟩)) (hq : tmps[5]?.getD undef = .bool ok)
    (h : W.cell? ⟨b, 0, none⟩ = some x0 ∧ W.cell? ⟨b, 1, none⟩ = some x1 ∧ W.cell? ⟨b, 2, none⟩ = some x2 ∧ W.cell? ⟨b, 3, none⟩ = some x3) (hR : R (.returned (.tuple #[.agg #[x0, x1, x2, x3], .bool ok])) W) :
    bodyPost Try.prog Try.f5 R .ret { tmps := tmps, defers := [] } W := by
  obtain ⟨h0, h1, h2, h3⟩ := h
  refine bodyPost_ret (v := .tuple #[.agg #[x0, x1, x2, x3], .bool ok]) ?_ rfl hR
  simp [results, Try.results5, go_sem, hp, hq, h0, h1, h2, h3]

set_option maxHeartbeats 1600000 in
set_option maxRecDepth 100000 in
theorem specLookup (n : Nat) (v : Value) (es : List (ByteArray × Ty)) (nm : ByteArray) (w : World) (hrow : EnvAt w (n + 1) v es) (hb : envBulk (n + 1) es ≤ 1048576) :
    Calls Try.prog 5 #[v, .string nm] w fun e w' => ∃ (l : Lay) (t : Ty) (ok : Bool), e = .returned (.tuple #[.agg (cellsK t l).toArray, .bool ok]) ∧ LookAns es nm t ok ∧ (LayAt w' (n + 1) l t ∧ ∀ b ∈ Lay.blocks (n + 1) l, w.heap.size ≤ b) ∧ Below w.heap.size w w' := by
  obtain ⟨av, capv, rfl, hel⟩ := envOpen hrow
  have hlen : es.length ≤ 1048576 := by unfold envBulk at hb; omega
  have HEL : Hid (type_of% hel) := hel
  have HB : Hid (type_of% hb) := hb
  have hB1 : Below w.heap.size w (w.alloc (.cells #[.int .i64 0, .string ⟨#[]⟩, .slice none 0 0, .slice none 0 0] 27)) := (Below.refl _ _).alloc (Nat.le_refl _) _
  have hR1 : (w.alloc (.cells #[.int .i64 0, .string ⟨#[]⟩, .slice none 0 0, .slice none 0 0] 27)).heap[w.heap.size]? = some (.cells #[.int .i64 0, .string ⟨#[]⟩, .slice none 0 0, .slice none 0 0] 27 (0, 0)) := (MapKept.heap_alloc w _).1
  clear hel hrow hb
  go_enter Try.func5, Try.ntmps5
  go_wp2_with fail
  generalize (w.alloc (.cells #[.int .i64 0, .string ⟨#[]⟩, .slice none 0 0, .slice none 0 0] 27)) = W1 at *
  obtain ⟨⟨r0, r1, r2, r3⟩, rf⟩ := block4 hR1
  have rf0 := rf 0
  have rf1 := rf 1
  have rf2 := rf 2
  have rf3 := rf 3
  have hzW : w.heap.size < W1.heap.size := (Array.getElem?_eq_some_iff.1 hR1).1
  clear rf
  go_loopw [6] (fun i wr => ∃ k : Nat, k ≤ es.length ∧ i = .int .i64 k ∧ (∀ j (h : j < es.length), j < k → es[j].1 ≠ nm) ∧ wr = W1) (fun i _ => es.length - (intOf i).toNat)
  case atStart => exact ⟨0, Nat.zero_le _, rfl, fun j _ h => absurd h (by omega), rfl⟩
  case round =>
    obtain ⟨k, hk, rfl, hall, rfl⟩ := hrel
    have HALL : Hid (type_of% hall) := hall
    clear hall
    by_cases hlt : k < es.length
    · obtain ⟨b, off, x0, x1, x2, x3, rfl, hbl, _, hty, q0, q1, q2, q3, q4⟩ := HEL.out k hlt
      have c0 := (hB1.cell (p := ⟨b, off + k * 5, none⟩) hbl).trans q0
      have c1 := (hB1.cell (p := ⟨b, off + k * 5 + 1, none⟩) hbl).trans q1
      have c2 := (hB1.cell (p := ⟨b, off + k * 5 + 2, none⟩) hbl).trans q2
      have c3 := (hB1.cell (p := ⟨b, off + k * 5 + 3, none⟩) hbl).trans q3
      have c4 := (hB1.cell (p := ⟨b, off + k * 5 + 4, none⟩) hbl).trans q4
      have hk0i : (0 : Int) ≤ (k : Int) := by omega
      have hk1i : (k : Int) < (es.length : Int) := by omega
      by_cases he : es[k].1 = nm
      · have HC : Hid (∃ l, True) := ⟨(.mk undef undef [] : Lay), trivial⟩
        have hbk := env_bulk (n + 1) es k hlt
        have hB := HB.out
        have HCP := specCopy (n + 1) _ _ wr (hty.below hB1) (by omega)
        have HCQ : Hid (type_of% HCP) := HCP
        have HA : Hid (LookAns es nm es[k].2 true) := .inl ⟨rfl, k, hlt, he, fun i hi => HALL.out i (by omega) hi, rfl⟩
        have hcmp : (es[k].1.toList == nm.toList) = true := by rw [he]; exact beq_self_eq_true _
        clear q0 q1 q2 q3 q4 HCP hbk hB he HALL HC HEL HB
        generalize es[k].1 = x at *
        go_wp2_with fail
        refine HCQ.out.mono ?_
        rintro e w2 ⟨l, rfl, hl, hb2⟩
        obtain ⟨a1, l1, k1, a2, l2, k2, ev1, ev2⟩ : ∃ a1 l1 k1 a2 l2 k2, l.vn = .slice a1 l1 k1 ∧ l.vk = .slice a2 l2 k2 := by
          obtain ⟨a, c, e⟩ := hl.1.1.slice
          obtain ⟨a', c', e'⟩ := hl.1.2.2.1.slice
          exact ⟨a, _, c, a', _, c', e, e'⟩
        have HCL : Hid (cellsK es[k].2 l = [.int .i64 es[k].2.kind, .string es[k].2.name, .slice a1 l1 k1, .slice a2 l2 k2]) := by show _ = _; unfold cellsK; rw [ev1, ev2]
        rw [HCL.out]
        have HL : Hid (type_of% hl) := hl
        have hbw2 : Below w.heap.size w w2 := hB1.trans (hb2.mono hB1.size)
        have hr2 := (hb2.block w.heap.size hzW).trans hR1
        clear r0 r1 r2 r3 rf0 rf1 rf2 rf3
        obtain ⟨⟨r0, r1, r2, r3⟩, rf⟩ := block4 hr2
        have rf0 := rf 0
        have rf1 := rf 1
        have rf2 := rf 2
        have rf3 := rf 3
        clear rf hl ev1 ev2
        go_wp2_with fail
        refine ret_lkS rfl rfl (put4T fun j hj => ?_) ⟨l, es[k].2, true, by rw [HCL.out], HA.out, ⟨HL.out.1.same fun b hb => put_other (by have := HL.out.2.2 b hb; omega), fun b hb => by have := HL.out.2.2 b hb; omega⟩, put_below hbw2 (Nat.le_refl _)⟩
        match j, hj with
        | 0, _ => rw [r0]; rfl
        | 1, _ => rw [r1]; rfl
        | 2, _ => rw [r2]; rfl
        | 3, _ => rw [r3]; rfl
      · have HA2 : Hid (∀ j (h : j < es.length), j < k + 1 → es[j].1 ≠ nm) := fun j hj hjk => by
          by_cases c : j = k
          · subst c; exact he
          · exact HALL.out j hj (by omega)
        have hcmp := eq_no he
        clear q0 q1 q2 q3 q4 he HALL hty
        generalize es[k].1 = x at *
        go_wp2_with fail
        go_roundw
        case rel => exact ⟨k + 1, by omega, by go_num, HA2.out, by trivial⟩
        case measure => simp [intOf]; omega
    · have HA : Hid (LookAns es nm (.mk 0 ⟨#[]⟩ [] []) false) := .inr ⟨rfl, rfl, fun j h => HALL.out j h (by omega)⟩
      clear HALL HEL HB
      go_wp2_with fail
      refine ret_lkS rfl rfl (put4T fun j hj => ?_) ⟨.mk (.slice none 0 0) (.slice none 0 0) [], .mk 0 ⟨#[]⟩ [] [], false, rfl, HA.out, ⟨(zeroLayL (B := 0)).1, (zeroLayL (B := w.heap.size) (w := w)).2.2⟩, put_below hB1 (Nat.le_refl _)⟩
      match j, hj with
      | 0, _ => rw [r0]; rfl
      | 1, _ => rw [r1]; rfl
      | 2, _ => rw [r2]; rfl
      | 3, _ => rw [r3]; rfl

end Go.Proofs.Ytpnalacdgnppmaa

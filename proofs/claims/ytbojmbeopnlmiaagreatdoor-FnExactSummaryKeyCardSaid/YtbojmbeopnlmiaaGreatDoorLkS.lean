/-
 The walk of spec.Lookup.
-/
import Derived.Test.YtbojmbeopnlmiaaGreatDoorCopyS
namespace Go.Proofs.YtbojmbeopnlmiaaGreatDoor
open Go.RowKit
theorem ret_lkS {R : Ending → World → Prop} {W : World} {tmps : Array Value} {b : Nat} {x0 x1 x2 x3 : Value} {ok : Bool} (hp : tmps[4]?.getD undef = .pointer (some ⟨b, 0, none⟩)) (hq : tmps[5]?.getD undef = .bool ok)
  (h : W.cell? ⟨b, 0, none⟩ = some x0 ∧ W.cell? ⟨b, 1, none⟩ = some x1 ∧ W.cell? ⟨b, 2, none⟩ = some x2 ∧ W.cell? ⟨b, 3, none⟩ = some x3) (hR : R (.returned (.tuple #[.agg #[x0, x1, x2, x3], .bool ok])) W) :
  bodyPost Tryz.prog Tryz.f100 R .ret { tmps := tmps, defers := [] } W := by
 obtain ⟨h0, h1, h2, h3⟩ := h
 refine bodyPost_ret (v := .tuple #[.agg #[x0, x1, x2, x3], .bool ok]) ?_ rfl hR
 simp [results, Tryz.results100, go_sem, hp, hq, h0, h1, h2, h3]
set_option maxHeartbeats 1600000 in
set_option maxRecDepth 100000 in
theorem specLookup (n : Nat) (v : Value) (es : List (ByteArray × Ty)) (nm : ByteArray) (w : World) (hrow : EnvAt w (n + 1) v es) (hb : envBulk (n + 1) es ≤ 1048576) :
  Calls Tryz.prog 100 #[v, .string nm] w fun e w' => ∃ (l : Lay) (t : Ty) (ok : Bool), e = .returned (.tuple #[.agg (cellsK t l).toArray, .bool ok]) ∧ LookAns es nm t ok ∧ (LayAt w' (n + 1) l t ∧ ∀ b ∈ Lay.blocks (n + 1) l, w.heap.size ≤ b) ∧ Below w.heap.size w w' := by
 obtain ⟨av, capv, rfl, hel⟩ := envOpen hrow
 have hlen : es.length ≤ 1048576 := by unfold envBulk at hb; omega
 have HEL : Hid (type_of% hel) := hel
 have HB : Hid (type_of% hb) := hb
 have hB1 : Below w.heap.size w (w.alloc (.cells #[.int .i64 0, .string ⟨#[]⟩, .slice none 0 0, .slice none 0 0] 30)) := (Below.refl _ _).alloc (Nat.le_refl _) _
 have hR1 : (w.alloc (.cells #[.int .i64 0, .string ⟨#[]⟩, .slice none 0 0, .slice none 0 0] 30)).heap[w.heap.size]? = some (.cells #[.int .i64 0, .string ⟨#[]⟩, .slice none 0 0, .slice none 0 0] 30 (0, 0)) := (MapKept.heap_alloc w _).1
 clear hel hrow hb
 go_enter Tryz.func100, Tryz.ntmps100
 go_wp2_with fail
 generalize (w.alloc (.cells #[.int .i64 0, .string ⟨#[]⟩, .slice none 0 0, .slice none 0 0] 30)) = W1 at *
 obtain ⟨⟨r0, r1, r2, r3⟩, rf⟩ := block4 hR1
 have rf0 := rf 0
 have rf1 := rf 1
 have rf2 := rf 2
 have rf3 := rf 3
 have hzW : w.heap.size < W1.heap.size := (Array.getElem?_eq_some_iff.1 hR1).1
 clear rf
 go_loopw [6] (fun i wr => ∃ k : Nat, k ≤ es.length ∧ i = .int .i64 k ∧ (∀ j (h : j < es.length), j < k → es[j].1 ≠ nm) ∧ wr = W1) (fun i _ => es.length - (intOf i).toNat)
 case atStart => exact ⟨0, Nat.zero_le _, rfl, fun j _ h => absurd h (by omega), rfl⟩
 case round =>
  obtain ⟨k, hk, rfl, hall, rfl⟩ := hrel
  have HALL : Hid (type_of% hall) := hall
  clear hall
  by_cases hlt : k < es.length
  ·obtain ⟨b, off, x0, x1, x2, x3, rfl, hbl, _, hty, q0, q1, q2, q3, q4⟩ := HEL.out k hlt
   have c0 := (hB1.cell (p := ⟨b, off + k * 5, none⟩) hbl).trans q0
   have c1 := (hB1.cell (p := ⟨b, off + k * 5 + 1, none⟩) hbl).trans q1
   have c2 := (hB1.cell (p := ⟨b, off + k * 5 + 2, none⟩) hbl).trans q2
   have c3 := (hB1.cell (p := ⟨b, off + k * 5 + 3, none⟩) hbl).trans q3
   have c4 := (hB1.cell (p := ⟨b, off + k * 5 + 4, none⟩) hbl).trans q4
   have hk0i : (0 : Int) ≤ (k : Int) := by omega
   have hk1i : (k : Int) < (es.length : Int) := by omega
   by_cases he : es[k].1 = nm
   ·have HC : Hid (∃ l, True) := ⟨(.mk undef undef [] : Lay), trivial⟩
    have hbk := env_bulk (n + 1) es k hlt
    have hB := HB.out
    have HCP := specCopy (n + 1) _ _ wr (hty.below hB1) (by omega)
    have HCQ : Hid (type_of% HCP) := HCP
    have HA : Hid (LookAns es nm es[k].2 true) := .inl ⟨rfl, k, hlt, he, fun i hi => HALL.out i (by omega) hi, rfl⟩
    have hcmp : (es[k].1.toList == nm.toList) = true := by rw [he]; exact beq_self_eq_true _
    clear q0 q1 q2 q3 q4 HCP hbk hB he HALL HC HEL HB
    generalize es[k].1 = x at *
    go_wp2_with fail
    refine HCQ.out.mono ?_
    rintro e w2 ⟨l, rfl, hl, hb2⟩
    obtain ⟨a1, l1, k1, a2, l2, k2, ev1, ev2⟩ : ∃ a1 l1 k1 a2 l2 k2, l.vn = .slice a1 l1 k1 ∧ l.vk = .slice a2 l2 k2 := by
     obtain ⟨a, c, e⟩ := hl.1.1.slice
     obtain ⟨a', c', e'⟩ := hl.1.2.2.1.slice
     exact ⟨a, _, c, a', _, c', e, e'⟩
    have HCL : Hid (cellsK es[k].2 l = [.int .i64 es[k].2.kind, .string es[k].2.name, .slice a1 l1 k1, .slice a2 l2 k2]) := by show _ = _; unfold cellsK; rw [ev1, ev2]
    rw [HCL.out]
    have HL : Hid (type_of% hl) := hl
    have hbw2 : Below w.heap.size w w2 := hB1.trans (hb2.mono hB1.size)
    have hr2 := (hb2.block w.heap.size hzW).trans hR1
    clear r0 r1 r2 r3 rf0 rf1 rf2 rf3
    obtain ⟨⟨r0, r1, r2, r3⟩, rf⟩ := block4 hr2
    have rf0 := rf 0
    have rf1 := rf 1
    have rf2 := rf 2
    have rf3 := rf 3
    clear rf hl ev1 ev2
    go_wp2_with fail
    refine ret_lkS rfl rfl (put4T fun j hj => ?_) ⟨l, es[k].2, true, by rw [HCL.out], HA.out, ⟨HL.out.1.same fun b hb => put_other (by have := HL.out.2.2 b hb; omega), fun b hb => by have := HL.out.2.2 b hb; omega⟩, put_below hbw2 (Nat.le_refl _)⟩
    match j, hj with
    | 0, _ => rw [r0]; rfl
    | 1, _ => rw [r1]; rfl
    | 2, _ => rw [r2]; rfl
    | 3, _ => rw [r3]; rfl
   ·have HA2 : Hid (∀ j (h : j < es.length), j < k + 1 → es[j].1 ≠ nm) := fun j hj hjk => by
     by_cases c : j = k
     ·subst c; exact he
     ·exact HALL.out j hj (by omega)
    have hcmp := eq_no he
    clear q0 q1 q2 q3 q4 he HALL hty
    generalize es[k].1 = x at *
    go_wp2_with fail
    go_roundw
    case rel => exact ⟨k + 1, by omega, by go_num, HA2.out, by trivial⟩
    case measure => simp [intOf]; omega
  ·have HA : Hid (LookAns es nm (.mk 0 ⟨#[]⟩ [] []) false) := .inr ⟨rfl, rfl, fun j h => HALL.out j h (by omega)⟩
   clear HALL HEL HB
   go_wp2_with fail
   refine ret_lkS rfl rfl (put4T fun j hj => ?_) ⟨.mk (.slice none 0 0) (.slice none 0 0) [], .mk 0 ⟨#[]⟩ [] [], false, rfl, HA.out, ⟨(zeroLayL (B := 0)).1, (zeroLayL (B := w.heap.size) (w := w)).2.2⟩, put_below hB1 (Nat.le_refl _)⟩
   match j, hj with
   | 0, _ => rw [r0]; rfl
   | 1, _ => rw [r1]; rfl
   | 2, _ => rw [r2]; rfl
   | 3, _ => rw [r3]; rfl
theorem put_done {B k : Nat} {w3 : World} {v3 : Value} {l : List ByteArray} {s : ByteArray} (hk : k ≤ l.length) (o3 : w3.ownsRow B 9 1 v3 (0 + k + 1 + (l.length - k)) ([] ++ strV (l.take k) ++ [.string s] ++ strV (l.drop k))) (hn : v3 ≠ .slice none 0 0) :
  ∃ g cap', v3 = .slice (some ⟨g, 0, none⟩) (l.take k ++ ([s] ++ l.drop k)).length cap' ∧ Texts w3 (.slice (some ⟨g, 0, none⟩) (l.take k ++ ([s] ++ l.drop k)).length cap') (l.take k ++ ([s] ++ l.drop k)) ∧ (l.take k ++ ([s] ++ l.drop k)).length ≤ cap' := by
 have e1 : 0 + k + 1 + (l.length - k) = (l.take k ++ ([s] ++ l.drop k)).length := by simp; omega
 have e2 : [] ++ strV (l.take k) ++ [.string s] ++ strV (l.drop k) = strV (l.take k ++ ([s] ++ l.drop k)) := by simp [strV]
 rw [e1, e2] at o3
 rcases o3.2 with ⟨h, _⟩ | ⟨g, cap, cur, hv, _, _, hc, _⟩
 ·exact absurd h hn
 ·exact ⟨g, cap, hv, Texts.own (by rw [← hv]; exact o3), hc⟩
set_option maxHeartbeats 1600000 in
set_option maxRecDepth 100000 in
theorem specPut (b cap : Nat) (l : List ByteArray) (s : ByteArray) (w : World) (hT : Texts w (.slice (some ⟨b, 0, none⟩) l.length cap) l) (hcap : l.length ≤ cap) (hl : l.length ≤ 1048577) (hA : Asc l) :
  Calls Tryz.prog 76 #[.slice (some ⟨b, 0, none⟩) l.length cap, .string s] w fun e w' => ∃ g cap' r, e = .returned (.slice (some ⟨g, 0, none⟩) r.length cap') ∧ Texts w' (.slice (some ⟨g, 0, none⟩) r.length cap') r ∧ r.length ≤ cap' ∧ r.length ≤ l.length + 1 ∧ Asc r ∧ (∀ x, x ∈ r ↔ x = s ∨ x ∈ l) ∧ Below w.heap.size w w' := by
 have HC : Hid (∀ j (hj : j < l.length), w.cell? ⟨b, j, none⟩ = some (.string l[j])) := fun j hj => by
  rcases hT with ⟨e, _⟩ | ⟨g, off, c, e, h⟩
  ·rw [e] at hj; simp at hj
  ·simp only [Value.slice.injEq, Option.some.injEq, Addr.mk.injEq] at e
   obtain ⟨⟨rfl, rfl, _⟩, _, rfl⟩ := e
   have := h j hj
   rw [Nat.zero_add] at this
   exact this
 have HA : Hid (Asc l) := hA
 have HT : Hid (type_of% hT) := hT
 clear hA hT
 obtain ⟨i0, hi, hz0, hz1, hz2⟩ := info_parts Tryz.infoString
 go_enter Tryz.func76, Tryz.ntmps76
 go_wp2_with fail
 go_loopw [5] (fun i wr => ∃ k : Nat, k ≤ l.length ∧ i = .int .i64 k ∧ (∀ j (hj : j < l.length), j < k → bl l[j] s) ∧ Below w.heap.size w wr) (fun i _ => l.length - (intOf i).toNat)
 case atStart => exact ⟨0, Nat.zero_le _, rfl, fun j _ h => absurd h (by omega), Below.refl _ _⟩
 case round =>
  obtain ⟨k, hk, rfl, hbl, hbe⟩ := hrel
  have HB : Hid (∀ j (hj : j < l.length), j < k → bl l[j] s) := hbl
  clear hbl
  by_cases hlt : k < l.length
  ·have hbw : b < w.heap.size := World.block_lt_of_cell? w ⟨b, k, none⟩ (HC.out k hlt)
   have ck := (hbe.cell (p := ⟨b, k, none⟩) hbw).trans (HC.out k hlt)
   by_cases hb : bl l[k] s
   ·have hb1 : Op.bytesLess l[k].toList s.toList = true := by rw [bytesLess_eq, Lib.toList_data, Lib.toList_data]; exact decide_eq_true hb
    have HB2 : Hid (∀ j (hj : j < l.length), j < k + 1 → bl l[j] s) := fun j hj hjk => by
     by_cases c : j = k
     ·subst c; exact hb
     ·exact HB.out j hj (by omega)
    generalize l[k] = x at *
    go_wp2_with fail
    go_roundw
    case rel => exact ⟨k + 1, by omega, by go_num, HB2.out, hbe⟩
    case measure => simp [intOf]; omega
   ·have hb1 : Op.bytesLess l[k].toList s.toList = false := by rw [bytesLess_eq, Lib.toList_data, Lib.toList_data]; exact decide_eq_false hb
    by_cases hs : l[k] = s
    ·have HM : Hid (s ∈ l) := hs ▸ List.getElem_mem hlt
     rw [hs] at hb1 ck
     clear HB HC
     go_wp2_with fail
     go_ret
     exact ⟨b, cap, l, rfl, HT.out.below hbe, hcap, Nat.le_succ _, HA.out, fun x => ⟨fun h => .inr h, fun h => h.elim (fun e => e ▸ HM.out) id⟩, hbe⟩
    ·have HP : Hid (Asc (l.take k ++ ([s] ++ l.drop k))) := HA.out.put HB.out fun hj => ⟨hb, hs⟩
     have C1 : Hid (∀ X : World, Below w.heap.size w X → ∀ j u, (strV (l.take k))[j]? = some u → X.cell? ((⟨b, 0, none⟩ : Addr).add j) = some u) := fun X hX j u hu => by
      have hj := (List.getElem?_eq_some_iff.1 hu).1
      rw [strV_length, List.length_take] at hj
      rw [strV_get _ _ (by rw [List.length_take]; omega), List.getElem_take] at hu
      rw [Addr.add_lit, Nat.zero_add, hX.cell (p := ⟨b, j, none⟩) (World.block_lt_of_cell? w ⟨b, j, none⟩ (HC.out j (by omega))), HC.out j (by omega)]
      exact hu
     have C2 : Hid (∀ X : World, Below w.heap.size w X → ∀ j u, (strV (l.drop k))[j]? = some u → X.cell? ((⟨b, k, none⟩ : Addr).add j) = some u) := fun X hX j u hu => by
      have hj := (List.getElem?_eq_some_iff.1 hu).1
      rw [strV_length, List.length_drop] at hj
      rw [strV_get _ _ (by rw [List.length_drop]; omega), List.getElem_drop] at hu
      rw [Addr.add_lit, hX.cell (p := ⟨b, k + j, none⟩) (World.block_lt_of_cell? w ⟨b, k + j, none⟩ (HC.out (k + j) (by omega))), HC.out (k + j) (by omega)]
      exact hu
     generalize l[k] = x at *
     have hne : (x.toList == s.toList) = false := by
      rw [beq_eq_false_iff_ne]
      intro e
      rw [Lib.toList_data, Lib.toList_data] at e
      exact hs (ba_inj e)
     clear HB HC
     go_wp2_with fail
     have hk0 : (0 : Int) ≤ (k : Int) := by omega
     have hk1 : (k : Int) ≤ (cap : Int) := by omega
     have hk2 : (k : Int) ≤ (l.length : Int) := by omega
     have hk3 : (l.length : Int) ≤ (cap : Int) := by omega
     have hz : w.heap.size ≤ wr.heap.size := hbe.size
     have hck : ¬ cap = k := by omega
     go_region_law (first | (refine step_append_own rfl (.tmp 33) (.tmp 36) 22 rfl wr.heap.size 9 i0 (.string ⟨#[]⟩) 1 16 Tryz.underlying22 hi hz0 hz1 hz2 rfl (by decide) (.slice (some ⟨wr.heap.size, 0, none⟩) 0 0) 0 [] rfl (by first | exact own_empty (MapKept.heap_alloc wr _).1 (Nat.le_refl _) | exact own_empty (heap_first wr _ _) (Nat.le_refl _)) ⟨b, 0, none⟩ k cap (strV (l.take k)) rfl (by rw [strV_length, List.length_take]; omega) (by first | exact C1.out _ (hbe.alloc hz _).drew | exact C1.out _ ((hbe.alloc hz _).alloc (by simp; omega) _).drew) (strV_one _) (by unfold maxLen; omega) (by omega) (by simp <;> omega) ?_; intro v1 w1 o1 g1 n1; have hb1 : Below wr.heap.size wr w1 := (by first | exact (((Below.refl _ wr).alloc (Nat.le_refl _) _).drew).grown g1 (by simp) (fun j hj => by simp [Value.ownBlock] at hj; omega) | exact ((((Below.refl _ wr).alloc (Nat.le_refl _) _).alloc (by simp) _).drew).grown g1 (by simp; omega) (fun j hj => by simp [Value.ownBlock] at hj; omega))) | (refine step_append_own rfl (.tmp 33) (.tmp 36) 22 rfl wr.heap.size 9 i0 (.string ⟨#[]⟩) 1 16 Tryz.underlying22 hi hz0 hz1 hz2 rfl (by decide) (.slice (some ⟨wr.heap.size + 1, 0, none⟩) 0 0) 0 [] rfl (by exact own_empty (heap_second wr _ _) (by omega)) ⟨b, 0, none⟩ k cap (strV (l.take k)) rfl (by rw [strV_length, List.length_take]; omega) (by first | exact C1.out _ (hbe.alloc hz _).drew | exact C1.out _ ((hbe.alloc hz _).alloc (by simp; omega) _).drew) (strV_one _) (by unfold maxLen; omega) (by omega) (by simp <;> omega) ?_; intro v1 w1 o1 g1 n1; have hb1 : Below wr.heap.size wr w1 := (by first | exact (((Below.refl _ wr).alloc (Nat.le_refl _) _).drew).grown g1 (by simp) (fun j hj => by simp [Value.ownBlock] at hj; omega) | exact ((((Below.refl _ wr).alloc (Nat.le_refl _) _).alloc (by simp) _).drew).grown g1 (by simp; omega) (fun j hj => by simp [Value.ownBlock] at hj; omega))) | (refine step_append_own rfl (.tmp 37) (.tmp 39) 22 rfl wr.heap.size 9 i0 (.string ⟨#[]⟩) 1 16 Tryz.underlying22 hi hz0 hz1 hz2 rfl (by decide) v1 (0 + k) ([] ++ strV (l.take k)) rfl (by first | exact o1 | exact o1.alloc _) _ 1 1 [.string s] rfl rfl (one_cell (by first | exact cellNew 0 rfl | exact g1.cell ((cellOld 0 (by simp)).trans (cellNew 0 rfl)) (by simp [Value.ownBlock]) | exact g1.cell (cellNew 0 (by simp)) (by simp [Value.ownBlock]))) (fun u hu => by simp at hu; subst hu; rfl) (by unfold maxLen; omega) (by omega) (by first | exact hb1.size | (have := hb1.size; simp; omega)) ?_; intro v2 w2 o2 g2 n2; have hb2 : Below wr.heap.size wr w2 := (by first | exact hb1.grown g2 hb1.size (fun j hj => (o1.lt j hj).1) | exact (hb1.alloc hb1.size _).grown g2 (by have := hb1.size; simp; omega) (fun j hj => (o1.lt j hj).1))) | (refine step_append_own rfl (.tmp 40) (.tmp 43) 22 rfl wr.heap.size 9 i0 (.string ⟨#[]⟩) 1 16 Tryz.underlying22 hi hz0 hz1 hz2 rfl (by decide) v2 (0 + k + 1) ([] ++ strV (l.take k) ++ [.string s]) rfl o2 ⟨b, k, none⟩ (l.length - k) (cap - k) (strV (l.drop k)) rfl (by rw [strV_length, List.length_drop, Nat.mul_one]) (C2.out _ (hbe.trans (hb2.mono hz))) (strV_one _) (by unfold maxLen; omega) (by omega) hb2.size ?_; intro v3 w3 o3 g3 n3; have hb3 : Below wr.heap.size wr w3 := hb2.grown g3 hb2.size (fun j hj => (o2.lt j hj).1)))
     all_goals
      obtain ⟨g, cap', e3, hT3, hc3⟩ := put_done hk o3 (fun e => by
       have h2 := (n3.1 e).1
       have h1 := (n2.1 h2).1
       have h0 := (n1.1 h1).1
       cases h0)
      have hb3w : Below w.heap.size w w3 := hbe.trans (hb3.mono hz)
      have HFIN : Hid (Texts w3 (.slice (some ⟨g, 0, none⟩) (l.take k ++ ([s] ++ l.drop k)).length cap') (l.take k ++ ([s] ++ l.drop k))) := hT3
      clear o1 o2 o3 g1 g2 g3 n1 n2 n3 hb1 hb2 hb3 hT3 C1 C2
      subst e3
      go_wp2_with fail
      go_ret
      exact ⟨g, cap', _, rfl, HFIN.out, hc3, by simp; omega, HP.out, mem_put k, hb3w⟩
  ·have hke : k = l.length := by omega
   have HP : Hid (Asc (l.take k ++ ([s] ++ l.drop k))) := HA.out.put HB.out fun hj => absurd hj hlt
   have hltk : ¬ (k : Int) < (l.length : Int) := by omega
   have HKE : Hid (k = l.length) := hke
   clear hke
   have C1 : Hid (∀ X : World, Below w.heap.size w X → ∀ j u, (strV (l.take k))[j]? = some u → X.cell? ((⟨b, 0, none⟩ : Addr).add j) = some u) := fun X hX j u hu => by
    have hj := (List.getElem?_eq_some_iff.1 hu).1
    rw [strV_length, List.length_take] at hj
    rw [strV_get _ _ (by rw [List.length_take]; omega), List.getElem_take] at hu
    rw [Addr.add_lit, Nat.zero_add, hX.cell (p := ⟨b, j, none⟩) (World.block_lt_of_cell? w ⟨b, j, none⟩ (HC.out j (by omega))), HC.out j (by omega)]
    exact hu
   have C2 : Hid (∀ X : World, Below w.heap.size w X → ∀ j u, (strV (l.drop k))[j]? = some u → X.cell? ((⟨b, k, none⟩ : Addr).add j) = some u) := fun X hX j u hu => by
    have hj := (List.getElem?_eq_some_iff.1 hu).1
    rw [strV_length, List.length_drop] at hj
    rw [strV_get _ _ (by rw [List.length_drop]; omega), List.getElem_drop] at hu
    rw [Addr.add_lit, hX.cell (p := ⟨b, k + j, none⟩) (World.block_lt_of_cell? w ⟨b, k + j, none⟩ (HC.out (k + j) (by omega))), HC.out (k + j) (by omega)]
    exact hu
   clear HB HC
   go_wp2_with fail
   have hk0 : (0 : Int) ≤ (k : Int) := by omega
   have hk1 : (k : Int) ≤ (cap : Int) := by omega
   have hk2 : (k : Int) ≤ (l.length : Int) := by omega
   have hk3 : (l.length : Int) ≤ (cap : Int) := by omega
   have hz : w.heap.size ≤ wr.heap.size := hbe.size
   by_cases hck : cap = k
   ·subst hck
    go_region_law (first | (refine step_append_own rfl (.tmp 33) (.tmp 36) 22 rfl wr.heap.size 9 i0 (.string ⟨#[]⟩) 1 16 Tryz.underlying22 hi hz0 hz1 hz2 rfl (by decide) (.slice (some ⟨wr.heap.size, 0, none⟩) 0 0) 0 [] rfl (by first | exact own_empty (MapKept.heap_alloc wr _).1 (Nat.le_refl _) | exact own_empty (heap_first wr _ _) (Nat.le_refl _)) ⟨b, 0, none⟩ cap cap (strV (l.take cap)) rfl (by rw [strV_length, List.length_take]; omega) (by first | exact C1.out _ (hbe.alloc hz _).drew | exact C1.out _ ((hbe.alloc hz _).alloc (by simp; omega) _).drew) (strV_one _) (by unfold maxLen; omega) (by omega) (by simp <;> omega) ?_; intro v1 w1 o1 g1 n1; have hb1 : Below wr.heap.size wr w1 := (by first | exact (((Below.refl _ wr).alloc (Nat.le_refl _) _).drew).grown g1 (by simp) (fun j hj => by simp [Value.ownBlock] at hj; omega) | exact ((((Below.refl _ wr).alloc (Nat.le_refl _) _).alloc (by simp) _).drew).grown g1 (by simp; omega) (fun j hj => by simp [Value.ownBlock] at hj; omega))) | (refine step_append_own rfl (.tmp 33) (.tmp 36) 22 rfl wr.heap.size 9 i0 (.string ⟨#[]⟩) 1 16 Tryz.underlying22 hi hz0 hz1 hz2 rfl (by decide) (.slice (some ⟨wr.heap.size + 1, 0, none⟩) 0 0) 0 [] rfl (by exact own_empty (heap_second wr _ _) (by omega)) ⟨b, 0, none⟩ cap cap (strV (l.take cap)) rfl (by rw [strV_length, List.length_take]; omega) (by first | exact C1.out _ (hbe.alloc hz _).drew | exact C1.out _ ((hbe.alloc hz _).alloc (by simp; omega) _).drew) (strV_one _) (by unfold maxLen; omega) (by omega) (by simp <;> omega) ?_; intro v1 w1 o1 g1 n1; have hb1 : Below wr.heap.size wr w1 := (by first | exact (((Below.refl _ wr).alloc (Nat.le_refl _) _).drew).grown g1 (by simp) (fun j hj => by simp [Value.ownBlock] at hj; omega) | exact ((((Below.refl _ wr).alloc (Nat.le_refl _) _).alloc (by simp) _).drew).grown g1 (by simp; omega) (fun j hj => by simp [Value.ownBlock] at hj; omega))) | (refine step_append_own rfl (.tmp 37) (.tmp 39) 22 rfl wr.heap.size 9 i0 (.string ⟨#[]⟩) 1 16 Tryz.underlying22 hi hz0 hz1 hz2 rfl (by decide) v1 (0 + cap) ([] ++ strV (l.take cap)) rfl (by first | exact o1 | exact o1.alloc _) _ 1 1 [.string s] rfl rfl (one_cell (by first | exact cellNew 0 rfl | exact g1.cell ((cellOld 0 (by simp)).trans (cellNew 0 rfl)) (by simp [Value.ownBlock]) | exact g1.cell (cellNew 0 (by simp)) (by simp [Value.ownBlock]))) (fun u hu => by simp at hu; subst hu; rfl) (by unfold maxLen; omega) (by omega) (by first | exact hb1.size | (have := hb1.size; simp; omega)) ?_; intro v2 w2 o2 g2 n2; have hb2 : Below wr.heap.size wr w2 := (by first | exact hb1.grown g2 hb1.size (fun j hj => (o1.lt j hj).1) | exact (hb1.alloc hb1.size _).grown g2 (by have := hb1.size; simp; omega) (fun j hj => (o1.lt j hj).1))) | (refine step_append_own rfl (.tmp 40) (.tmp 43) 22 rfl wr.heap.size 9 i0 (.string ⟨#[]⟩) 1 16 Tryz.underlying22 hi hz0 hz1 hz2 rfl (by decide) v2 (0 + cap + 1) ([] ++ strV (l.take cap) ++ [.string s]) rfl o2 _ 0 _ (strV (l.drop cap)) rfl (by rw [strV_length, List.length_drop]; have := HKE.out; omega) (fun j u hu => by rw [List.drop_of_length_le (by have := HKE.out; omega)] at hu; simp [strV] at hu) (strV_one _) (by unfold maxLen; omega) (by omega) hb2.size ?_; intro v3 w3 o3 g3 n3; have hb3 : Below wr.heap.size wr w3 := hb2.grown g3 hb2.size (fun j hj => (o2.lt j hj).1)))
    all_goals
     obtain ⟨g, cap', e3, hT3, hc3⟩ := put_done hk (by rw [show l.length - cap = 0 by have := HKE.out; omega]; exact o3) (fun e => by
      have h2 := (n3.1 e).1
      have h1 := (n2.1 h2).1
      have h0 := (n1.1 h1).1
      cases h0)
     have hb3w : Below w.heap.size w w3 := hbe.trans (hb3.mono hz)
     have HFIN : Hid (Texts w3 (.slice (some ⟨g, 0, none⟩) (l.take cap ++ ([s] ++ l.drop cap)).length cap') (l.take cap ++ ([s] ++ l.drop cap))) := hT3
     clear o1 o2 o3 g1 g2 g3 n1 n2 n3 hb1 hb2 hb3 hT3 C1 C2
     subst e3
     go_wp2_with fail
     go_ret
     exact ⟨g, cap', _, rfl, HFIN.out, hc3, by simp; omega, HP.out, mem_put cap, hb3w⟩
   ·go_region_law (first | (refine step_append_own rfl (.tmp 33) (.tmp 36) 22 rfl wr.heap.size 9 i0 (.string ⟨#[]⟩) 1 16 Tryz.underlying22 hi hz0 hz1 hz2 rfl (by decide) (.slice (some ⟨wr.heap.size, 0, none⟩) 0 0) 0 [] rfl (by first | exact own_empty (MapKept.heap_alloc wr _).1 (Nat.le_refl _) | exact own_empty (heap_first wr _ _) (Nat.le_refl _)) ⟨b, 0, none⟩ k cap (strV (l.take k)) rfl (by rw [strV_length, List.length_take]; omega) (by first | exact C1.out _ (hbe.alloc hz _).drew | exact C1.out _ ((hbe.alloc hz _).alloc (by simp; omega) _).drew) (strV_one _) (by unfold maxLen; omega) (by omega) (by simp <;> omega) ?_; intro v1 w1 o1 g1 n1; have hb1 : Below wr.heap.size wr w1 := (by first | exact (((Below.refl _ wr).alloc (Nat.le_refl _) _).drew).grown g1 (by simp) (fun j hj => by simp [Value.ownBlock] at hj; omega) | exact ((((Below.refl _ wr).alloc (Nat.le_refl _) _).alloc (by simp) _).drew).grown g1 (by simp; omega) (fun j hj => by simp [Value.ownBlock] at hj; omega))) | (refine step_append_own rfl (.tmp 33) (.tmp 36) 22 rfl wr.heap.size 9 i0 (.string ⟨#[]⟩) 1 16 Tryz.underlying22 hi hz0 hz1 hz2 rfl (by decide) (.slice (some ⟨wr.heap.size + 1, 0, none⟩) 0 0) 0 [] rfl (by exact own_empty (heap_second wr _ _) (by omega)) ⟨b, 0, none⟩ k cap (strV (l.take k)) rfl (by rw [strV_length, List.length_take]; omega) (by first | exact C1.out _ (hbe.alloc hz _).drew | exact C1.out _ ((hbe.alloc hz _).alloc (by simp; omega) _).drew) (strV_one _) (by unfold maxLen; omega) (by omega) (by simp <;> omega) ?_; intro v1 w1 o1 g1 n1; have hb1 : Below wr.heap.size wr w1 := (by first | exact (((Below.refl _ wr).alloc (Nat.le_refl _) _).drew).grown g1 (by simp) (fun j hj => by simp [Value.ownBlock] at hj; omega) | exact ((((Below.refl _ wr).alloc (Nat.le_refl _) _).alloc (by simp) _).drew).grown g1 (by simp; omega) (fun j hj => by simp [Value.ownBlock] at hj; omega))) | (refine step_append_own rfl (.tmp 37) (.tmp 39) 22 rfl wr.heap.size 9 i0 (.string ⟨#[]⟩) 1 16 Tryz.underlying22 hi hz0 hz1 hz2 rfl (by decide) v1 (0 + k) ([] ++ strV (l.take k)) rfl (by first | exact o1 | exact o1.alloc _) _ 1 1 [.string s] rfl rfl (one_cell (by first | exact cellNew 0 rfl | exact g1.cell ((cellOld 0 (by simp)).trans (cellNew 0 rfl)) (by simp [Value.ownBlock]) | exact g1.cell (cellNew 0 (by simp)) (by simp [Value.ownBlock]))) (fun u hu => by simp at hu; subst hu; rfl) (by unfold maxLen; omega) (by omega) (by first | exact hb1.size | (have := hb1.size; simp; omega)) ?_; intro v2 w2 o2 g2 n2; have hb2 : Below wr.heap.size wr w2 := (by first | exact hb1.grown g2 hb1.size (fun j hj => (o1.lt j hj).1) | exact (hb1.alloc hb1.size _).grown g2 (by have := hb1.size; simp; omega) (fun j hj => (o1.lt j hj).1))) | (refine step_append_own rfl (.tmp 40) (.tmp 43) 22 rfl wr.heap.size 9 i0 (.string ⟨#[]⟩) 1 16 Tryz.underlying22 hi hz0 hz1 hz2 rfl (by decide) v2 (0 + k + 1) ([] ++ strV (l.take k) ++ [.string s]) rfl o2 _ (l.length - k) (cap - k) (strV (l.drop k)) rfl (by rw [strV_length, List.length_drop, Nat.mul_one]) (fun j u hu => by rw [List.drop_of_length_le (by have := HKE.out; omega)] at hu; simp [strV] at hu) (strV_one _) (by unfold maxLen; omega) (by omega) hb2.size ?_; intro v3 w3 o3 g3 n3; have hb3 : Below wr.heap.size wr w3 := hb2.grown g3 hb2.size (fun j hj => (o2.lt j hj).1)))
    all_goals
     obtain ⟨g, cap', e3, hT3, hc3⟩ := put_done hk o3 (fun e => by
      have h2 := (n3.1 e).1
      have h1 := (n2.1 h2).1
      have h0 := (n1.1 h1).1
      cases h0)
     have hb3w : Below w.heap.size w w3 := hbe.trans (hb3.mono hz)
     have HFIN : Hid (Texts w3 (.slice (some ⟨g, 0, none⟩) (l.take k ++ ([s] ++ l.drop k)).length cap') (l.take k ++ ([s] ++ l.drop k))) := hT3
     clear o1 o2 o3 g1 g2 g3 n1 n2 n3 hb1 hb2 hb3 hT3 C1 C2
     subst e3
     go_wp2_with fail
     go_ret
     exact ⟨g, cap', _, rfl, HFIN.out, hc3, by simp; omega, HP.out, mem_put k, hb3w⟩
end Go.Proofs.YtbojmbeopnlmiaaGreatDoor

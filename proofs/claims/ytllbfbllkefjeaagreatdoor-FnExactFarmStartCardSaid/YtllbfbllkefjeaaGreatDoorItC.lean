/-
  The walks of impl's copier at a store, and of impl.copyStore.
-/
import Derived.Test.YtllbfbllkefjeaaGreatDoorMapT
import Derived.Test.YtllbfbllkefjeaaGreatDoorOwT
import Derived.Deep.AppendLies
import Derived.Deep.RegionHeld3
namespace Go.Proofs.YtllbfbllkefjeaaGreatDoor
open Go.RowKit

theorem Tryz.infoPtrS : (Tryz.prog.info? 160).map (fun i => (i.zero, i.size, i.bytes)) = some (some (.pointer none), 1, 8) := by kernel_rfl
/-- the texts of items, one behind the other -/
def itT (es : List Itm) : List ByteArray := es.flatMap fun e => [e.1, e.2.1, e.2.2]
theorem itV_T (es : List Itm) : itV es = (itT es).map Value.string := by
  induction es with
  | nil => rfl
  | cons e r ih => simp only [itV, itT, List.flatMap_cons, List.map_append] at ih ⊢; rw [ih]; rfl
theorem itT_length (es : List Itm) : (itT es).length = es.length * 3 := by
  have h := itV_length es
  rw [itV_T, List.length_map] at h
  exact h
theorem itT_sum (es : List Itm) : ((itT es).map ByteArray.size).sum = (es.map itBulk).sum := by
  induction es with
  | nil => rfl
  | cons e r ih =>
    simp only [itT, List.flatMap_cons, List.map_append, List.sum_append, List.map_cons, List.sum_cons, List.map_nil, List.sum_nil] at ih ⊢
    rw [ih]
    unfold itBulk
    omega
/-- the places of these texts, in a row of such a block -/
def itPs (g : Nat) (es : List Itm) : List ((Nat × Nat) × ByteArray) := (itT es).zipIdx.map fun p => ((g, p.2), p.1)
theorem itPs_length (g : Nat) (es : List Itm) : (itPs g es).length = es.length * 3 := by simp [itPs, itT_length]
theorem itPs_at (g : Nat) (es : List Itm) (j : Nat) (h : j < (itPs g es).length) : (itPs g es)[j] = ((g, j), (itT es)[j]'(by rw [itPs_length] at h; rw [itT_length]; exact h)) := by
  simp [itPs]
theorem itPs_sum (g : Nat) (es : List Itm) : ptrSum (itPs g es) = (es.map itBulk).sum := by
  rw [← itT_sum]
  unfold ptrSum itPs
  rw [List.map_map]
  have : ((fun p : (Nat × Nat) × ByteArray => p.2.size) ∘ fun p : ByteArray × Nat => ((g, p.2), p.1)) = ByteArray.size ∘ Prod.fst := by funext p; rfl
  rw [this, ← List.map_map, List.zipIdx_map_fst]
/-- so many places -/
def ptrV (g n : Nat) : List Value := (List.range n).map fun j => .pointer (some ⟨g, j, none⟩)
theorem ptrV_length (g n : Nat) : (ptrV g n).length = n := by simp [ptrV]
theorem ptrV_three (g k : Nat) : ptrV g (k * 3 + 3) = ptrV g (k * 3) ++ [.pointer (some ⟨g, k * 3, none⟩), .pointer (some ⟨g, k * 3 + 1, none⟩), .pointer (some ⟨g, k * 3 + 2, none⟩)] := by
  unfold ptrV
  rw [List.range_succ, List.range_succ, List.range_succ]
  simp

theorem ret_cStore {R : Ending → World → Prop} {W : World} {tmps : Array Value} {b : Nat} {x0 x1 : Value} (hp : tmps[4]?.getD undef = .pointer (some ⟨b, 0, none⟩))
    (h : W.cell? ⟨b, 0, none⟩ = some x0 ∧ W.cell? ⟨b, 1, none⟩ = some x1) (hR : R (.returned (.agg #[x0, x1])) W) :
    bodyPost Tryz.prog Tryz.f87 R .ret { tmps := tmps, defers := [] } W := by
  obtain ⟨h0, h1⟩ := h
  refine bodyPost_ret (v := .agg #[x0, x1]) ?_ rfl hR
  simp [results, Tryz.results87, go_sem, hp, h0, h1]

set_option maxHeartbeats 3200000 in
set_option maxRecDepth 100000 in
theorem implCStore (cb : Nat) (z room : Int) (y1 y2 y3 : Value) (v : Value) (es : List Itm) (w : World) (hrow : ItAt w v es) (hb : itsBulk es ≤ 4194304) (hcb : w.heap[cb]? = some (.cells #[.int .i64 z, y1, y2, y3] 157 (0, 0))) (hz : 4194304 ≤ z) (hz2 : z ≤ 8589934592) :
    Calls Tryz.prog 87 #[.pointer (some ⟨cb, 0, none⟩), .agg #[.int .i64 room, v]] w fun e w' => ∃ (a : Option Addr) (c S : Nat), e = .returned (.agg #[.int .i64 room, .slice a es.length c]) ∧ w'.ownsRow w.heap.size 83 3 (.slice a es.length c) es.length (itV es) ∧ S ≤ 4194304 ∧ Below w.heap.size (w.setCell ⟨cb, 0, none⟩ (.int .i64 (z - S))) w' := by
  obtain ⟨i0, hi, hz0, hz1, hz2'⟩ := info_parts Tryz.infoPtrS
  obtain ⟨av, capv, rfl, _⟩ := itOpen hrow
  have hlen : es.length ≤ 4194304 := by unfold itsBulk at hb; omega
  have hcl : cb < w.heap.size := (Array.getElem?_eq_some_iff.1 hcb).1
  have hB2 : Below w.heap.size w ((w.alloc (.cells #[.int .i64 room, .slice av es.length capv] 35)).alloc (.cells #[.int .i64 0, .slice none 0 0] 35)) := ((Below.refl _ _).alloc (Nat.le_refl _) _).alloc (by simp) _
  have hzz : ((w.alloc (.cells #[.int .i64 room, .slice av es.length capv] 35)).alloc (.cells #[.int .i64 0, .slice none 0 0] 35)).heap.size = w.heap.size + 1 + 1 := by simp
  have a0 : ((w.alloc (.cells #[.int .i64 room, .slice av es.length capv] 35)).alloc (.cells #[.int .i64 0, .slice none 0 0] 35)).cell? ⟨w.heap.size, 0, none⟩ = some (.int .i64 room) := by rw [itOld _ (by simp), itNew _ rfl]; rfl
  have r0 : ((w.alloc (.cells #[.int .i64 room, .slice av es.length capv] 35)).alloc (.cells #[.int .i64 0, .slice none 0 0] 35)).heap[w.heap.size + 1]? = some (.cells #[.int .i64 0, .slice none 0 0] 35 (0, 0)) := by
    have := (MapKept.heap_alloc (w.alloc (.cells #[.int .i64 room, .slice av es.length capv] 35)) (.cells #[.int .i64 0, .slice none 0 0] 35)).1
    rwa [show (w.alloc (.cells #[.int .i64 room, .slice av es.length capv] 35)).heap.size = w.heap.size + 1 from by simp] at this
  have HCL : Hid (type_of% (slCloneI _ es _ (hrow.below hB2) hlen)) := slCloneI _ es _ (hrow.below hB2) hlen
  have hsum : (es.map itBulk).sum ≤ 4194304 := by unfold itsBulk at hb; omega
  have HSUM : Hid (type_of% hsum) := hsum
  clear hrow hb hsum
  go_enter Tryz.func87, Tryz.ntmps87
  go_wp2_with fail
  generalize ((w.alloc (.cells #[.int .i64 room, .slice av es.length capv] 35)).alloc (.cells #[.int .i64 0, .slice none 0 0] 35)) = W2 at *
  refine HCL.out.mono ?_
  rintro e w3 ⟨a, c, rfl, ho3, hb3⟩
  have hs1 : w.heap.size < W2.heap.size := by omega
  have hs2 : w.heap.size + 1 < W2.heap.size := by omega
  have hle3 := hb3.size
  have HA : Hid (∀ X : World, Below W2.heap.size W2 X → X.cell? ⟨w.heap.size, 0, none⟩ = some (.int .i64 room) ∧ X.heap[w.heap.size + 1]? = some (.cells #[.int .i64 0, .slice none 0 0] 35 (0, 0)) ∧ Below w.heap.size w X) := fun X hX => ⟨(hX.cell (p := ⟨w.heap.size, 0, none⟩) hs1).trans a0, (hX.block _ hs2).trans r0, hB2.trans (hX.mono (by omega))⟩
  have HO3 : Hid (type_of% ho3) := ho3
  obtain ⟨g, hg⟩ : ∃ g, es.length = 0 ∨ (a = some ⟨g, 0, none⟩ ∧ W2.heap.size ≤ g ∧ g < w3.heap.size) := by
    rcases ho3.2 with ⟨_, h0⟩ | ⟨g, cap, cur, hv, hg, hh, _⟩
    · exact ⟨0, .inl h0⟩
    · simp only [Value.slice.injEq, true_and] at hv
      exact ⟨g, .inr ⟨hv.1, hg, (Array.getElem?_eq_some_iff.1 hh).1⟩⟩
  have HG : Hid (type_of% hg) := hg
  clear HCL ho3 a0 r0 hB2 hg
  go_wp2_with fail
  go_loopw [6, 13] (fun o i wr => ∃ k : Nat, k ≤ es.length ∧ i = .int .i64 k ∧ wr.ownsRow w3.heap.size 160 1 o (k * 3) (ptrV g (k * 3)) ∧ Below w3.heap.size w3 wr) (fun _ i _ => es.length - (intOf i).toNat)
  case atStart => exact ⟨0, Nat.zero_le _, rfl, World.ownsRow_nil _ _ _ _, Below.refl _ _⟩
  case round =>
    obtain ⟨k, hk, rfl, ho, hbe⟩ := hrel
    obtain ⟨wo, rfl⟩ : ∃ wo, wo = wr := ⟨_, rfl⟩
    have hlew := hbe.size
    by_cases hlt : k < es.length
    · have ha : a = some ⟨g, 0, none⟩ := by
        rcases HG.out with h | h
        · omega
        · exact h.1
      subst ha
      have HP3 : Hid (ptrV g (k * 3 + 3) = ptrV g (k * 3) ++ [.pointer (some ⟨g, k * 3, none⟩), .pointer (some ⟨g, k * 3 + 1, none⟩), .pointer (some ⟨g, k * 3 + 2, none⟩)]) := ptrV_three g k
      have hk0 : (0 : Int) ≤ k := by omega
      have hk1 : (k : Int) < es.length := by omega
      have HO : Hid (type_of% ho) := ho
      clear ho HG HO3 HA HSUM
      go_wp2_with fail
      go_region_held3 (fun _ => True) (exact True.intro)
        ((refine step_append_ownO rfl (.tmp 16) (.tmp 29) 159 rfl w3.heap.size 160 i0 (.pointer none) 1 8 Tryz.underlying159 hi hz0 hz1 hz2' rfl (by decide) _ _ _ rfl (by first | exact HO.out.alloc _ | exact (HO.out.alloc _).drew | exact itKept (HO.out.alloc _) (Below.refl _ _).drew) ⟨wo.heap.size, 0, none⟩ 3 3 [.pointer (some ⟨g, k * 3, none⟩), .pointer (some ⟨g, k * 3 + 1, none⟩), .pointer (some ⟨g, k * 3 + 2, none⟩)] rfl rfl (by first | exact World.news_of_block (cs := #[.pointer (some ⟨g, k * 3, none⟩), .pointer (some ⟨g, k * 3 + 1, none⟩), .pointer (some ⟨g, k * 3 + 2, none⟩)]) (t := 160) (fr := (0, 0)) (MapKept.heap_alloc wo _).1) (by simp [Value.oneCell']) (by unfold maxLen; omega) (by omega) (by simp; omega) ?_; intro v6 w6 o6 g6 n6; have hb6 : Below w3.heap.size w3 w6 := (by first | exact (hbe.alloc hlew _).grown g6 (by simp; omega) (fun j hj => (HO.out.lt j hj).1) | exact (hbe.alloc hlew _).drew.grown g6 (by simp; omega) (fun j hj => (HO.out.lt j hj).1))))
      all_goals
        have HR6 : Hid (w6.ownsRow w3.heap.size 160 1 v6 ((k + 1) * 3) (ptrV g ((k + 1) * 3))) := by
          rw [show (k + 1) * 3 = k * 3 + 3 from by omega, HP3.out]
          exact o6
        clear o6 g6 n6 HO HP3
        go_wp2_with fail
        go_roundw
        case rel => exact ⟨k + 1, by omega, by go_num, HR6.out, hb6⟩
        case measure => simp [intOf]; omega
    · have hke : k = es.length := by omega
      subst hke
      have hb2o : Below W2.heap.size W2 wo := hb3.trans (hbe.mono hle3)
      have hoi := itKept HO3.out hbe
      have hcw : wo.heap[cb]? = some (.cells #[.int .i64 z, y1, y2, y3] 157 (0, 0)) := ((HA.out wo hb2o).2.2.block cb hcl).trans hcb
      have c0 : wo.cell? ⟨cb, 0, none⟩ = some (.int .i64 z) := by rw [cell_of_row _ _ 0 _ _ (0, 0) hcw]; rfl
      have f0 := frozen_of_row wo cb 0 _ _ hcw
      obtain ⟨ap, cp, hvp⟩ := own_sliceO ho
      subst hvp
      have hpt : PtrsAt wo (.slice ap (es.length * 3) cp) (itPs g es) := by
        refine ⟨ap, cp, by rw [itPs_length], fun j hj => ?_⟩
        have hj3 : j < es.length * 3 := by rw [itPs_length] at hj; exact hj
        rcases HG.out with h0 | ⟨hga, _, _⟩
        · omega
        · subst hga
          rcases ho.2 with ⟨_, h0⟩ | ⟨gg, cap, cur, hv, _, hh, _⟩
          · omega
          · simp only [Value.slice.injEq, true_and] at hv
            obtain ⟨rfl, rfl⟩ := hv
            refine ⟨gg, 0, rfl, ?_, ?_, ?_⟩
            · rw [Nat.zero_add, ho.cellAt j (by omega), itPs_at g es j hj]
              simp [ptrV, hj3]
            · rw [itPs_at g es j hj, hoi.cellAt j (by omega), itV_T, List.getElem?_map, List.getElem?_eq_getElem (by rw [itT_length]; exact hj3)]
              rfl
            · rw [itPs_at g es j hj]
              exact hoi.frozenAt j
      have hps := itPs_sum g es
      have hS := HSUM.out
      have HOT : Hid (type_of% (implOwnTexts cb z _ (itPs g es) wo hpt c0 f0 (by rw [hps]; omega) hz2 (by rw [itPs_length]; omega))) := implOwnTexts cb z _ (itPs g es) wo hpt c0 f0 (by rw [hps]; omega) hz2 (by rw [itPs_length]; omega)
      rw [hps] at HOT
      generalize (es.map itBulk).sum = S at *
      obtain ⟨hA1, hA2, hA3⟩ := HA.out wo hb2o
      have HFIN : Hid (∀ w5 : World, Below wo.heap.size (wo.setCell ⟨cb, 0, none⟩ (.int .i64 (z - (S : Nat)))) w5 → w5.cell? ⟨w.heap.size, 0, none⟩ = some (.int .i64 room) ∧ w5.heap[w.heap.size + 1]? = some (.cells #[.int .i64 0, .slice none 0 0] 35 (0, 0)) ∧ w5.ownsRow W2.heap.size 83 3 (.slice a es.length c) es.length (itV es) ∧ Below w.heap.size (w.setCell ⟨cb, 0, none⟩ (.int .i64 (z - (S : Nat)))) w5) := fun w5 h5 => by
        have hlo : w.heap.size + 1 < wo.heap.size := by have := hb2o.size; omega
        have hzo : (wo.setCell ⟨cb, 0, none⟩ (.int .i64 (z - (S : Nat)))).heap.size = wo.heap.size := by simp
        refine ⟨?_, ?_, ?_, ?_⟩
        · rw [h5.cell (p := ⟨w.heap.size, 0, none⟩) (by show w.heap.size < _; omega), World.cell?_setCell_other _ _ _ _ (fun q => by simp only [Addr.mk.injEq] at q; omega)]
          exact hA1
        · rw [h5.block _ hlo, Below.heap_setCell _ _ _ _ (by simp; omega)]
          exact hA2
        · refine itLow hoi (Nat.le_refl _) fun gg hgg => ?_
          have h1 := hoi.lt gg hgg
          rw [h5.block gg h1.2, Below.heap_setCell _ _ _ _ (by simp; omega)]
        · refine Below.trans ?_ (h5.mono (by omega))
          have hq := hA3
          refine ⟨hq.os, hq.tape, hq.output, by simpa using hq.size, fun kk hkk => ?_⟩
          by_cases c : kk = cb
          · subst c
            rw [heap_setCell_same _ _ 0 _ _ _ hcw, heap_setCell_same _ _ 0 _ _ _ hcb]
          · rw [Below.heap_setCell _ _ _ _ (by simpa using c), Below.heap_setCell _ _ _ _ (by simpa using c)]
            exact hq.block kk hkk
      clear hpt hps ho hoi HO3 HG HA HSUM hA1 hA2 hA3 hcw c0 f0 hb2o hbe hb3
      go_wp2_with fail
      refine HOT.out.mono ?_
      rintro e w5 ⟨rfl, h5⟩
      obtain ⟨hA1, hA2, hA3, hA4⟩ := HFIN.out w5 h5
      have d0 : w5.cell? ⟨w.heap.size + 1, 0, none⟩ = some (.int .i64 0) := by rw [cell_of_row _ _ 0 _ _ (0, 0) hA2]; rfl
      have d1 : w5.cell? ⟨w.heap.size + 1, 1, none⟩ = some (.slice none 0 0) := by rw [cell_of_row _ _ 1 _ _ (0, 0) hA2]; rfl
      have f0 := frozen_of_row w5 (w.heap.size + 1) 0 _ _ hA2
      have f1 := frozen_of_row w5 (w.heap.size + 1) 1 _ _ hA2
      have HEND : Hid (type_of% hA3 ∧ type_of% hA4) := ⟨hA3, hA4⟩
      clear HOT HFIN h5 hA2 hA3 hA4
      go_wp2_with fail
      refine ret_cStore (b := w.heap.size + 1) (x0 := .int .i64 room) (x1 := .slice a es.length c) rfl ⟨?_, ?_⟩ ⟨a, c, S, rfl, ?_, hS, ?_⟩
      · rw [World.cell?_setCell_other _ _ _ _ (by simp), World.cell?_setCell_same _ _ _ d0]
      · rw [World.cell?_setCell_same _ _ _ (by rw [World.cell?_setCell_other _ _ _ _ (by simp)]; exact d1)]
      · refine itLow HEND.out.1 (by omega) fun gg hgg => ?_
        have h1 := HEND.out.1.lt gg hgg
        rw [Below.heap_setCell _ _ _ _ (by simp; omega), Below.heap_setCell _ _ _ _ (by simp; omega)]
      · exact (HEND.out.2.setCell (by simp) _).setCell (by simp) _

end Go.Proofs.YtllbfbllkefjeaaGreatDoor

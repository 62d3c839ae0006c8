/-
  The walks of impl.itemsWeight and impl.copyStore.
-/
import Derived.Test.YtmlehifdoifghaaDoorItM
import Derived.Test.YtmlehifdoifghaaDoorCloneLib
import Derived.Deep.RegionHeld3
namespace Go.Proofs.YtmlehifdoifghaaDoor
open Go.RowKit

set_option maxHeartbeats 800000 in
set_option maxRecDepth 100000 in
theorem implItemsWeight (v : Value) (es : List Itm) (w : World) (hrow : ItAt w v es) (hb : itsBulk es ≤ 4194304) :
    Calls Tryd.prog 34 #[v] w fun e w' => ∃ k : Nat, e = .returned (.int .i64 (k : Int)) ∧ k ≤ 4194304 ∧ Below w.heap.size w w' := by
  obtain ⟨av, capv, rfl, hel⟩ := itOpen hrow
  have hlen : es.length ≤ 4194304 := by unfold itsBulk at hb; omega
  have HSM : Hid (∀ k, ((es.take k).map itBulk).sum ≤ 4194304) := fun k => by
    have := itSum_le es k
    unfold itsBulk at hb
    omega
  have HEL : Hid (type_of% hel) := hel
  clear hrow hel hb
  go_enter Tryd.func34, Tryd.ntmps34
  go_wp2_with fail
  go_loopw [3, 8] (fun s i wr => ∃ k : Nat, k ≤ es.length ∧ i = .int .i64 k ∧ s = .int .i64 (((es.take k).map itBulk).sum : Nat) ∧ Below w.heap.size w wr) (fun _ i _ => es.length - (intOf i).toNat)
  case atStart => exact ⟨0, Nat.zero_le _, rfl, by simp, Below.refl _ _⟩
  case round =>
    obtain ⟨k, hk, rfl, rfl, hbe⟩ := hrel
    have hs0 := HSM.out k
    by_cases hlt : k < es.length
    · obtain ⟨b, off, rfl, hbl, q0, q1, q2⟩ := HEL.out k hlt
      have c0 := (hbe.cell (p := ⟨b, off + k * 3, none⟩) hbl).trans q0
      have c1 := (hbe.cell (p := ⟨b, off + k * 3 + 1, none⟩) hbl).trans q1
      have c2 := (hbe.cell (p := ⟨b, off + k * 3 + 2, none⟩) hbl).trans q2
      have hs1 := HSM.out (k + 1)
      have HM := itSum_more es k hlt
      have HM2 : Hid (((es.take (k + 1)).map itBulk).sum = ((es.take k).map itBulk).sum + es[k].1.size + es[k].2.1.size + es[k].2.2.size) := by
        show _ = _
        rw [HM]
        unfold itBulk
        omega
      have hk0i : (0 : Int) ≤ k := by omega
      have hk1i : (k : Int) < es.length := by omega
      rw [HM2.out] at hs1
      clear HM q0 q1 q2 HEL HSM
      generalize ((es.take k).map itBulk).sum = S at *
      generalize es[k].1 = x0 at *
      generalize es[k].2.1 = x1 at *
      generalize es[k].2.2 = x2 at *
      have hb2 : Below w.heap.size w (wr.alloc (.cells #[.string x0, .string x1, .string x2] 41)) := hbe.alloc hbe.size _
      have hmin : ¬ (8589934593 : Int) < (S : Int) + (x0.size : Int) + (x1.size : Int) + (x2.size : Int) := by omega
      have hmin2 : (S : Int) + (x0.size : Int) + (x1.size : Int) + (x2.size : Int) ≤ 8589934593 := by omega
      go_wp2_with fail
      go_roundw
      case rel => exact ⟨k + 1, by omega, by go_num, by rw [HM2.out]; simp only [Value.int.injEq, true_and]; omega, hb2⟩
      case measure => simp [intOf]; omega
    · clear HEL HSM
      generalize ((es.take k).map itBulk).sum = S at *
      go_wp2_with fail
      go_ret
      exact ⟨S, rfl, hs0, hbe⟩

theorem ret_copyS {R : Ending → World → Prop} {W : World} {tmps : Array Value} {b : Nat} {x0 x1 : Value} (hp : tmps[2]?.getD undef = .pointer (some ⟨b, 0, none⟩))
    (h : W.cell? ⟨b, 0, none⟩ = some x0 ∧ W.cell? ⟨b, 1, none⟩ = some x1) (hR : R (.returned (.agg #[x0, x1])) W) :
    bodyPost Tryd.prog Tryd.f20 R .ret { tmps := tmps, defers := [] } W := by
  obtain ⟨h0, h1⟩ := h
  refine bodyPost_ret (v := .agg #[x0, x1]) ?_ rfl hR
  simp [results, Tryd.results20, go_sem, hp, h0, h1]

theorem itV_same (es : List Itm) (k : Nat) (h : k < es.length) : (((itV es).set (k * 3) (.string es[k].1)).set (k * 3 + 1) (.string es[k].2.1)).set (k * 3 + 2) (.string es[k].2.2) = itV es := by
  rw [itV_set es k h es[k], List.set_getElem_self]

set_option maxHeartbeats 1600000 in
set_option maxRecDepth 100000 in
theorem implCopyStore (room : Int) (v : Value) (es : List Itm) (w : World) (hrow : ItAt w v es) (hb : itsBulk es ≤ 4194304) :
    Calls Tryd.prog 20 #[.agg #[.int .i64 room, v]] w fun e w' => ∃ a c, e = .returned (.agg #[.int .i64 room, .slice a es.length c]) ∧ w'.ownsRow w.heap.size 41 3 (.slice a es.length c) es.length (itV es) ∧ Below w.heap.size w w' := by
  obtain ⟨av, capv, rfl, _⟩ := itOpen hrow
  have hlen : es.length ≤ 4194304 := by unfold itsBulk at hb; omega
  have hB2 : Below w.heap.size w ((w.alloc (.cells #[.int .i64 room, .slice av es.length capv] 28)).alloc (.cells #[.int .i64 0, .slice none 0 0] 28)) := ((Below.refl _ _).alloc (Nat.le_refl _) _).alloc (by simp) _
  have hz2 : ((w.alloc (.cells #[.int .i64 room, .slice av es.length capv] 28)).alloc (.cells #[.int .i64 0, .slice none 0 0] 28)).heap.size = w.heap.size + 1 + 1 := by simp
  have a0 : ((w.alloc (.cells #[.int .i64 room, .slice av es.length capv] 28)).alloc (.cells #[.int .i64 0, .slice none 0 0] 28)).cell? ⟨w.heap.size, 0, none⟩ = some (.int .i64 room) := by rw [itOld _ (by simp), itNew _ rfl]; rfl
  have r0 : ((w.alloc (.cells #[.int .i64 room, .slice av es.length capv] 28)).alloc (.cells #[.int .i64 0, .slice none 0 0] 28)).heap[w.heap.size + 1]? = some (.cells #[.int .i64 0, .slice none 0 0] 28 (0, 0)) := by
    have := (MapKept.heap_alloc (w.alloc (.cells #[.int .i64 room, .slice av es.length capv] 28)) (.cells #[.int .i64 0, .slice none 0 0] 28)).1
    rwa [show (w.alloc (.cells #[.int .i64 room, .slice av es.length capv] 28)).heap.size = w.heap.size + 1 from by simp] at this
  have HCL : Hid (type_of% (slCloneI _ es _ (hrow.below hB2) hlen)) := slCloneI _ es _ (hrow.below hB2) hlen
  have HB : Hid (type_of% hb) := hb
  clear hrow hb
  go_enter Tryd.func20, Tryd.ntmps20
  go_wp2_with fail
  generalize ((w.alloc (.cells #[.int .i64 room, .slice av es.length capv] 28)).alloc (.cells #[.int .i64 0, .slice none 0 0] 28)) = W2 at *
  refine HCL.out.mono ?_
  rintro e w3 ⟨a, c, rfl, ho3, hb3⟩
  have hs1 : w.heap.size < W2.heap.size := by omega
  have hs2 : w.heap.size + 1 < W2.heap.size := by omega
  have HA : Hid (∀ X : World, Below W2.heap.size W2 X → X.cell? ⟨w.heap.size, 0, none⟩ = some (.int .i64 room) ∧ X.heap[w.heap.size + 1]? = some (.cells #[.int .i64 0, .slice none 0 0] 28 (0, 0)) ∧ Below w.heap.size w X) := fun X hX => ⟨(hX.cell (p := ⟨w.heap.size, 0, none⟩) hs1).trans a0, (hX.block _ hs2).trans r0, hB2.trans (hX.mono (by omega))⟩
  have HW : Hid (type_of% (implItemsWeight _ es w3 (itRow ho3) HB.out)) := implItemsWeight _ es w3 (itRow ho3) HB.out
  have HO3 : Hid (type_of% ho3) := ho3
  clear HCL ho3 a0 r0 hB2
  go_wp2_with fail
  refine HW.out.mono ?_
  rintro e w4 ⟨kw, rfl, hkw, hb4⟩
  have hkn : ¬ (8589934592 : Int) < (kw : Int) := by omega
  have ho4 := itKept HO3.out hb4
  have hb24 := hb3.trans (hb4.mono hb3.size)
  have HO4 : Hid (type_of% ho4) := ho4
  clear HW HO3 hb3 hb4 ho4
  go_wp2_with fail
  go_loopw [18] (fun i wr => ∃ k : Nat, k ≤ es.length ∧ i = .int .i64 k ∧ wr.ownsRow W2.heap.size 41 3 (.slice a es.length c) es.length (itV es) ∧ Below W2.heap.size W2 wr) (fun i _ => es.length - (intOf i).toNat)
  case atStart => exact ⟨0, Nat.zero_le _, rfl, HO4.out, hb24⟩
  case round =>
    obtain ⟨k, hk, rfl, ho, hbe⟩ := hrel
    clear HO4 hb24
    have hzr := hbe.size
    by_cases hlt : k < es.length
    · obtain ⟨g, rfl, hgl, hgr⟩ : ∃ g, a = some ⟨g, 0, none⟩ ∧ W2.heap.size ≤ g ∧ g < wr.heap.size := by
        rcases ho.2 with ⟨_, h0⟩ | ⟨g, cap, cur, hv, hg, hh, _⟩
        · omega
        · simp only [Value.slice.injEq, true_and] at hv
          exact ⟨g, hv.1, hg, (Array.getElem?_eq_some_iff.1 hh).1⟩
      obtain ⟨v0, v1, v2⟩ := itV_at es k hlt
      have hl := itV_length es
      have c0 : wr.cell? ⟨g, k * 3, none⟩ = some (.string es[k].1) := by rw [ho.cellAt (k * 3) (by omega), v0]
      have c1 : wr.cell? ⟨g, k * 3 + 1, none⟩ = some (.string es[k].2.1) := by rw [ho.cellAt (k * 3 + 1) (by omega), v1]
      have c2 : wr.cell? ⟨g, k * 3 + 2, none⟩ = some (.string es[k].2.2) := by rw [ho.cellAt (k * 3 + 2) (by omega), v2]
      have HSAME : Hid ((((itV es).set (k * 3) (.string es[k].1)).set (k * 3 + 1) (.string es[k].2.1)).set (k * 3 + 2) (.string es[k].2.2) = itV es) := itV_same es k hlt
      have hbk := it_bulk es k hlt
      have hBB := HB.out
      have HC0 : Hid (∀ wx : World, Calls Tryd.prog 23 #[.string es[k].1] wx fun e w' => e = .returned (.string es[k].1) ∧ Below wx.heap.size wx w') := fun wx => stringsClone es[k].1 wx (by omega)
      have HC1 : Hid (∀ wx : World, Calls Tryd.prog 23 #[.string es[k].2.1] wx fun e w' => e = .returned (.string es[k].2.1) ∧ Below wx.heap.size wx w') := fun wx => stringsClone es[k].2.1 wx (by omega)
      have HC2 : Hid (∀ wx : World, Calls Tryd.prog 23 #[.string es[k].2.2] wx fun e w' => e = .returned (.string es[k].2.2) ∧ Below wx.heap.size wx w') := fun wx => stringsClone es[k].2.2 wx (by omega)
      have hk0i : (0 : Int) ≤ k := by omega
      have hk1i : (k : Int) < es.length := by omega
      have HO : Hid (type_of% ho) := ho
      clear v0 v1 v2 hbk hBB ho HB
      generalize hY : itV es = Y at *
      have HY : Hid (type_of% hY) := hY
      clear hY
      generalize es[k].1 = x0 at *
      generalize es[k].2.1 = x1 at *
      generalize es[k].2.2 = x2 at *
      have bA : Below wr.heap.size wr (wr.alloc (.cells #[.string x0, .string x1, .string x2] 41)) := (Below.refl _ _).alloc (Nat.le_refl _) _
      have i0 : (wr.alloc (.cells #[.string x0, .string x1, .string x2] 41)).cell? ⟨wr.heap.size, 0, none⟩ = some (.string x0) := itNew 0 rfl
      have i1 : (wr.alloc (.cells #[.string x0, .string x1, .string x2] 41)).cell? ⟨wr.heap.size, 1, none⟩ = some (.string x1) := itNew 1 rfl
      have i2 : (wr.alloc (.cells #[.string x0, .string x1, .string x2] 41)).cell? ⟨wr.heap.size, 2, none⟩ = some (.string x2) := itNew 2 rfl
      have hzX : wr.heap.size < (wr.alloc (.cells #[.string x0, .string x1, .string x2] 41)).heap.size := by simp
      go_wp2_with fail
      generalize (wr.alloc (.cells #[.string x0, .string x1, .string x2] 41)) = X at *
      have HI : Hid (∀ Z : World, Below X.heap.size X Z → Z.cell? ⟨wr.heap.size, 0, none⟩ = some (.string x0) ∧ Z.cell? ⟨wr.heap.size, 1, none⟩ = some (.string x1) ∧ Z.cell? ⟨wr.heap.size, 2, none⟩ = some (.string x2)) := fun Z hZ => ⟨(hZ.cell (p := ⟨wr.heap.size, 0, none⟩) hzX).trans i0, (hZ.cell (p := ⟨wr.heap.size, 1, none⟩) hzX).trans i1, (hZ.cell (p := ⟨wr.heap.size, 2, none⟩) hzX).trans i2⟩
      have HROW : Hid (∀ Z : World, Below X.heap.size X Z → Z.ownsRow W2.heap.size 41 3 (.slice (some ⟨g, 0, none⟩) es.length c) es.length Y ∧ Below W2.heap.size W2 Z) := fun Z hZ => ⟨itKept HO.out (bA.trans (hZ.mono bA.size)), hbe.trans ((bA.trans (hZ.mono bA.size)).mono hzr)⟩
      have HST : Hid (∀ wc : World, Below X.heap.size X wc → (∃ u, wc.cell? ⟨g, k * 3, none⟩ = some u) ∧ wc.frozen? ⟨g, k * 3, none⟩ = false ∧ (∃ u, (wc.setCell ⟨g, k * 3, none⟩ (.string x0)).cell? ⟨g, k * 3 + 1, none⟩ = some u) ∧ (wc.setCell ⟨g, k * 3, none⟩ (.string x0)).frozen? ⟨g, k * 3 + 1, none⟩ = false ∧ (∃ u, ((wc.setCell ⟨g, k * 3, none⟩ (.string x0)).setCell ⟨g, k * 3 + 1, none⟩ (.string x1)).cell? ⟨g, k * 3 + 2, none⟩ = some u) ∧ ((wc.setCell ⟨g, k * 3, none⟩ (.string x0)).setCell ⟨g, k * 3 + 1, none⟩ (.string x1)).frozen? ⟨g, k * 3 + 2, none⟩ = false ∧ ((((wc.setCell ⟨g, k * 3, none⟩ (.string x0)).setCell ⟨g, k * 3 + 1, none⟩ (.string x1)).setCell ⟨g, k * 3 + 2, none⟩ (.string x2)).cell? ⟨wr.heap.size, 0, none⟩ = some (.string x0) ∧ (((wc.setCell ⟨g, k * 3, none⟩ (.string x0)).setCell ⟨g, k * 3 + 1, none⟩ (.string x1)).setCell ⟨g, k * 3 + 2, none⟩ (.string x2)).cell? ⟨wr.heap.size, 1, none⟩ = some (.string x1) ∧ (((wc.setCell ⟨g, k * 3, none⟩ (.string x0)).setCell ⟨g, k * 3 + 1, none⟩ (.string x1)).setCell ⟨g, k * 3 + 2, none⟩ (.string x2)).cell? ⟨wr.heap.size, 2, none⟩ = some (.string x2)) ∧ Hid ((((wc.setCell ⟨g, k * 3, none⟩ (.string x0)).setCell ⟨g, k * 3 + 1, none⟩ (.string x1)).setCell ⟨g, k * 3 + 2, none⟩ (.string x2)).ownsRow W2.heap.size 41 3 (.slice (some ⟨g, 0, none⟩) es.length c) es.length Y ∧ Below W2.heap.size W2 (((wc.setCell ⟨g, k * 3, none⟩ (.string x0)).setCell ⟨g, k * 3 + 1, none⟩ (.string x1)).setCell ⟨g, k * 3 + 2, none⟩ (.string x2)))) := fun wc bc => by
        obtain ⟨R, bw⟩ := HROW.out wc bc
        obtain ⟨h0, h1, h2⟩ := HI.out wc bc
        have hYl : Y.length = es.length * 3 := R.1
        obtain ⟨S1, _⟩ := R.stored (k * 3) (.string x0)
        obtain ⟨S2, _⟩ := S1.stored (k * 3 + 1) (.string x1)
        obtain ⟨S3, _⟩ := S2.stored (k * 3 + 2) (.string x2)
        have hne : ∀ i j : Nat, (⟨g, i, none⟩ : Addr) ≠ ⟨wr.heap.size, j, none⟩ := fun i j e => by
          simp only [Addr.mk.injEq, and_true] at e
          omega
        have hoth : ∀ j u, wc.cell? ⟨wr.heap.size, j, none⟩ = some u → (((wc.setCell ⟨g, k * 3, none⟩ (.string x0)).setCell ⟨g, k * 3 + 1, none⟩ (.string x1)).setCell ⟨g, k * 3 + 2, none⟩ (.string x2)).cell? ⟨wr.heap.size, j, none⟩ = some u := fun j u h => by
          rw [World.cell?_setCell_other _ _ _ _ (hne _ _), World.cell?_setCell_other _ _ _ _ (hne _ _), World.cell?_setCell_other _ _ _ _ (hne _ _)]
          exact h
        refine ⟨?_, R.frozenAt _, ?_, S1.frozenAt _, ?_, S2.frozenAt _, ⟨hoth _ _ h0, hoth _ _ h1, hoth _ _ h2⟩, ?_, ((bw.setCell hgl _).setCell hgl _).setCell hgl _⟩
        · rw [R.cellAt (k * 3) (by omega)]; exact ⟨_, List.getElem?_eq_getElem (by omega)⟩
        · rw [S1.cellAt (k * 3 + 1) (by omega)]; exact ⟨_, List.getElem?_eq_getElem (by rw [List.length_set]; omega)⟩
        · rw [S2.cellAt (k * 3 + 2) (by omega)]; exact ⟨_, List.getElem?_eq_getElem (by rw [List.length_set, List.length_set]; omega)⟩
        · rw [HSAME.out] at S3
          exact S3
      clear c0 c1 c2 i0 i1 i2 HO hbe bA
      obtain ⟨i0, i1, i2⟩ := HI.out X (Below.refl _ _)
      go_region_held3 (fun w' => w'.cell? ⟨wr.heap.size, 0, none⟩ = some (.string x0) ∧ w'.cell? ⟨wr.heap.size, 1, none⟩ = some (.string x1) ∧ w'.cell? ⟨wr.heap.size, 2, none⟩ = some (.string x2))
        (first
          | exact HI.out _ ((Below.refl _ _).drew)
          | exact HI.out _ (by assumption)
          | (revert hSC; intro hSC; exact hSC))
        (first
          | (go_at_call_of 23 x0; refine (HC0.out _).mono ?_; rintro e wa ⟨rfl, ha⟩; have ba : Below X.heap.size X wa := (Below.refl _ _).drew.trans ha)
          | (revert ba; intro ba; go_at_call_of 23 x1; refine (HC1.out _).mono ?_; rintro e wb ⟨rfl, hb⟩; have bb : Below X.heap.size X wb := ba.trans (hb.mono ba.size))
          | (revert bb; intro bb; go_at_call_of 23 x2; refine (HC2.out _).mono ?_; rintro e wc ⟨rfl, hc⟩; have bc : Below X.heap.size X wc := bb.trans (hc.mono bb.size); obtain ⟨⟨u0, q0⟩, f0, ⟨u1, q1⟩, f1, ⟨u2, q2⟩, f2, hSC, HF⟩ := HST.out wc bc))
      all_goals
        clear q0 q1 q2 f0 f1 f2 hSC ba bb bc ha hb hc HC0 HC1 HC2 HI HROW HST HSAME i0 i1 i2
        go_wp2_with fail
        go_roundw
        case rel => exact ⟨k + 1, by omega, by go_num, HF.out.1, HF.out.2⟩
        case measure => simp [intOf]; omega
    · obtain ⟨a0, r0, hbw⟩ := HA.out wr hbe
      have HO : Hid (type_of% ho) := ho
      clear HA HB ho
      have d0 : wr.cell? ⟨w.heap.size + 1, 0, none⟩ = some (.int .i64 0) := by rw [cell_of_row _ _ 0 _ _ (0, 0) r0]; rfl
      have d1 : wr.cell? ⟨w.heap.size + 1, 1, none⟩ = some (.slice none 0 0) := by rw [cell_of_row _ _ 1 _ _ (0, 0) r0]; rfl
      have f0 := frozen_of_row wr (w.heap.size + 1) 0 _ _ r0
      have f1 := frozen_of_row wr (w.heap.size + 1) 1 _ _ r0
      clear r0
      go_wp2_with fail
      refine ret_copyS (b := w.heap.size + 1) (x0 := .int .i64 room) (x1 := .slice a es.length c) rfl ⟨?_, ?_⟩ ⟨a, c, rfl, ?_, ?_⟩
      · rw [World.cell?_setCell_other _ _ _ _ (by simp), World.cell?_setCell_same _ _ _ d0]
      · rw [World.cell?_setCell_same _ _ _ (by rw [World.cell?_setCell_other _ _ _ _ (by simp)]; exact d1)]
      · refine itLow HO.out (by omega) fun g hg => ?_
        have hgl := (HO.out.lt g hg).1
        rw [Below.heap_setCell _ _ _ _ (by simp; omega), Below.heap_setCell _ _ _ _ (by simp; omega)]
      · exact (hbw.setCell (by simp) _).setCell (by simp) _

end Go.Proofs.YtmlehifdoifghaaDoor

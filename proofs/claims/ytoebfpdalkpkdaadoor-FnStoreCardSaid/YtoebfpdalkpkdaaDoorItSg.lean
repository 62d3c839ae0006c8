/-
  The walk of spec.StoreGet.
-/
import Derived.Test.YtoebfpdalkpkdaaDoorItWo
import Derived.Test.YtoebfpdalkpkdaaDoorItGt
import Derived.Deep.CutRange
namespace Go.Proofs.YtoebfpdalkpkdaaDoor
open Go.RowKit

theorem ret_specGet {R : Ending → World → Prop} {W : World} {tmps : Array Value} {b : Nat} {x0 x1 x2 x3 : Value} (hp : tmps[4]?.getD undef = .pointer (some ⟨b, 0, none⟩)) (hq : tmps[5]?.getD undef = x2) (hr : tmps[6]?.getD undef = x3)
    (h : W.cell? ⟨b, 0, none⟩ = some x0 ∧ W.cell? ⟨b, 1, none⟩ = some x1) (hR : R (.returned (.tuple #[.agg #[x0, x1], x2, x3])) W) :
    bodyPost Tryd.prog Tryd.f17 R .ret { tmps := tmps, defers := [] } W := by
  obtain ⟨h0, h1⟩ := h
  refine bodyPost_ret (v := .tuple #[.agg #[x0, x1], x2, x3]) ?_ rfl hR
  simp [results, Tryd.results17, go_sem, hp, hq, hr, h0, h1]

theorem own_oneI {w : World} {B G : Nat} {x0 x1 x2 : ByteArray} (h : w.heap[G]? = some (.cells #[.string x0, .string x1, .string x2] 50 (0, 0))) (hB : B ≤ G) : w.ownsRow B 50 3 (.slice (some ⟨G, 0, none⟩) 1 1) 1 (itV [(x0, x1, x2)]) :=
  ⟨rfl, .inr ⟨G, 1, #[.string x0, .string x1, .string x2], rfl, hB, h, Nat.le_refl _, by unfold maxLen; omega, rfl, rfl⟩⟩

set_option maxHeartbeats 3200000 in
set_option maxRecDepth 100000 in
open Classical in
theorem specStoreGet (room : Int) (av : Option Addr) (cap : Nat) (es : List Itm) (s out : ByteArray) (fnd : Bool) (L : List Itm) (w : World) (hav : av = none → cap = 0) (hrow : ItAt w (.slice av es.length cap) es) (hb : itsBulk es ≤ 4194304) (hG : StoreGets room es s out fnd L) :
    Calls Tryd.prog 17 #[.agg #[.int .i64 room, .slice av es.length cap], .string s] w fun e w' => ∃ a c, e = .returned (.tuple #[.agg #[.int .i64 room, .slice a L.length c], .string out, .bool fnd]) ∧ w'.ownsRow w.heap.size 50 3 (.slice a L.length c) L.length (itV L) ∧ Below w.heap.size w w' := by
  obtain ⟨i0, hi0, hz0, hz1, hz2⟩ := info_parts Tryd.infoItem
  have hlen : es.length ≤ 4194304 := by unfold itsBulk at hb; omega
  have hB2 : Below w.heap.size w ((w.alloc (.cells #[.int .i64 room, .slice av es.length cap] 29)).alloc (.cells #[.int .i64 0, .slice none 0 0] 29)) := ((Below.refl _ _).alloc (Nat.le_refl _) _).alloc (by simp) _
  have hzW : ((w.alloc (.cells #[.int .i64 room, .slice av es.length cap] 29)).alloc (.cells #[.int .i64 0, .slice none 0 0] 29)).heap.size = w.heap.size + 1 + 1 := by simp
  have a0 : ((w.alloc (.cells #[.int .i64 room, .slice av es.length cap] 29)).alloc (.cells #[.int .i64 0, .slice none 0 0] 29)).cell? ⟨w.heap.size, 0, none⟩ = some (.int .i64 room) := by rw [itOld _ (by simp), itNew _ rfl]; rfl
  have a1 : ((w.alloc (.cells #[.int .i64 room, .slice av es.length cap] 29)).alloc (.cells #[.int .i64 0, .slice none 0 0] 29)).cell? ⟨w.heap.size, 1, none⟩ = some (.slice av es.length cap) := by rw [itOld _ (by simp), itNew _ rfl]; rfl
  have r0 : ((w.alloc (.cells #[.int .i64 room, .slice av es.length cap] 29)).alloc (.cells #[.int .i64 0, .slice none 0 0] 29)).heap[w.heap.size + 1]? = some (.cells #[.int .i64 0, .slice none 0 0] 29 (0, 0)) := by
    have := (MapKept.heap_alloc (w.alloc (.cells #[.int .i64 room, .slice av es.length cap] 29)) (.cells #[.int .i64 0, .slice none 0 0] 29)).1
    rwa [show (w.alloc (.cells #[.int .i64 room, .slice av es.length cap] 29)).heap.size = w.heap.size + 1 from by simp] at this
  have HCP : Hid (type_of% (specCopyStore room av cap es _ hav (hrow.below hB2) hlen)) := specCopyStore room av cap es _ hav (hrow.below hB2) hlen
  have HSO : Hid (∀ Y, Below w.heap.size w Y → Calls Tryd.prog 9 #[.agg #[.int .i64 room, .slice av es.length cap]] Y fun e w' => e = .returned (.bool (decide (StoreRight room es))) ∧ Below Y.heap.size Y w') := fun Y hY => specStoreOk room _ es Y (hrow.below hY) hb
  have HWO : Hid (∀ Y, Below w.heap.size w Y → Calls Tryd.prog 33 #[.slice av es.length cap, .string s] Y fun e w' => ∃ g c, e = .returned (.slice (some ⟨g, 0, none⟩) (withoutI es s).length c) ∧ w'.ownsRow Y.heap.size 50 3 (.slice (some ⟨g, 0, none⟩) (withoutI es s).length c) (withoutI es s).length (itV (withoutI es s)) ∧ Below Y.heap.size Y w') := fun Y hY => specWithout _ es s Y (hrow.below hY) hlen
  obtain ⟨av', cv', ea, hel⟩ := itOpen hrow
  simp only [Value.slice.injEq, true_and] at ea
  obtain ⟨rfl, rfl⟩ := ea
  have HEL : Hid (type_of% hel) := hel
  have HGG : Hid (type_of% hG) := hG
  clear hrow hb hG hel
  go_enter Tryd.func17, Tryd.ntmps17
  go_wp2_with fail
  generalize ((w.alloc (.cells #[.int .i64 room, .slice av es.length cap] 29)).alloc (.cells #[.int .i64 0, .slice none 0 0] 29)) = W2 at *
  have hs0 : w.heap.size < W2.heap.size := by omega
  have hs1 : w.heap.size + 1 < W2.heap.size := by omega
  clear hzW
  refine HCP.out.mono ?_
  rintro e w3 ⟨g, c, rfl, ho3, hb3⟩
  have bX : Below w3.heap.size w3 (w3.alloc (.cells #[.int .i64 room, .slice (some ⟨g, 0, none⟩) es.length c] 29)) := (Below.refl _ _).alloc (Nat.le_refl _) _
  have hX : (w3.alloc (.cells #[.int .i64 room, .slice (some ⟨g, 0, none⟩) es.length c] 29)).heap[w3.heap.size]? = some (.cells #[.int .i64 room, .slice (some ⟨g, 0, none⟩) es.length c] 29 (0, 0)) := (MapKept.heap_alloc w3 _).1
  have hzX : w3.heap.size < (w3.alloc (.cells #[.int .i64 room, .slice (some ⟨g, 0, none⟩) es.length c] 29)).heap.size := by simp
  have hz3 := hb3.size
  have HA : Hid (∀ Y : World, Below (w3.alloc (.cells #[.int .i64 room, .slice (some ⟨g, 0, none⟩) es.length c] 29)).heap.size (w3.alloc (.cells #[.int .i64 room, .slice (some ⟨g, 0, none⟩) es.length c] 29)) Y → (Y.cell? ⟨w.heap.size, 0, none⟩ = some (.int .i64 room) ∧ Y.cell? ⟨w.heap.size, 1, none⟩ = some (.slice av es.length cap)) ∧ Y.heap[w3.heap.size]? = some (.cells #[.int .i64 room, .slice (some ⟨g, 0, none⟩) es.length c] 29 (0, 0)) ∧ Y.ownsRow W2.heap.size 50 3 (.slice (some ⟨g, 0, none⟩) es.length c) es.length (itV es) ∧ Below W2.heap.size W2 Y ∧ Below w.heap.size w Y) := fun Y hY => by
    have h23 : Below W2.heap.size W2 Y := hb3.trans ((bX.trans (hY.mono bX.size)).mono hz3)
    exact ⟨⟨(h23.cell (p := ⟨w.heap.size, 0, none⟩) hs0).trans a0, (h23.cell (p := ⟨w.heap.size, 1, none⟩) hs0).trans a1⟩, (hY.block _ hzX).trans hX, itKept ho3 (bX.trans (hY.mono bX.size)), h23, hB2.trans (h23.mono (by omega))⟩
  have HBE : Hid (∀ (w4 : World) (a : Option Addr) (c m : Nat) (L : List Itm), w4.ownsRow W2.heap.size 50 3 (.slice a m c) m (itV L) → Below W2.heap.size W2 w4 → _) := fun w4 a c m L h1 h2 => boxEnd (room := room) hB2 hs1 r0 h1 h2
  clear HCP a0 a1 ho3 hb3 hX r0 bX hB2
  go_wp2_with fail
  generalize (w3.alloc (.cells #[.int .i64 room, .slice (some ⟨g, 0, none⟩) es.length c] 29)) = X at *
  go_loopw [8] (fun i wr => ∃ k : Nat, k ≤ es.length ∧ i = .int .i64 k ∧ (¬ StoreRight room es → k = 0) ∧ (∀ j (h : j < es.length), j < k → es[j].2.1 ≠ s) ∧ Below X.heap.size X wr) (fun i _ => es.length - (intOf i).toNat)
  case atStart => exact ⟨0, Nat.zero_le _, rfl, fun _ => rfl, fun j _ h => absurd h (by omega), Below.refl _ _⟩
  case round =>
    obtain ⟨k, hk, rfl, hkr, hno, hbe⟩ := hrel
    obtain ⟨⟨p0, p1⟩, hx4, ho4, h24, hw4⟩ := HA.out wr hbe
    have HNO : Hid (type_of% hno) := hno
    have HKR : Hid (type_of% hkr) := hkr
    clear hno hkr
    have hw3 : w3.heap.size < wr.heap.size := Nat.lt_of_lt_of_le hzX hbe.size
    by_cases hlt : k < es.length
    · have HS1 : Hid (type_of% (HSO.out wr hw4)) := HSO.out wr hw4
      have hk0 : (0 : Int) ≤ k := by omega
      have hk1 : (k : Int) < es.length := by omega
      by_cases hyes : StoreRight room es
      · rw [decide_eq_true hyes] at HS1
        have hGI := HGG.out.1 hyes
        obtain ⟨b, off, ead, hbl, q0, q1, q2⟩ := HEL.out k hlt
        subst ead
        by_cases he : es[k].2.1 = s
        · have hLR : out = es[k].2.2 ∧ fnd = true ∧ L = es[k] :: withoutI es s := by
            rcases hGI with ⟨hn, _⟩ | ⟨j, hj, hje, hjf, h1, h2, h3⟩
            · exact absurd he (hn k hlt)
            · obtain rfl : j = k := by
                by_cases c1 : j < k
                · exact absurd hje (HNO.out j hj c1)
                · by_cases c2 : k < j
                  · exact absurd he (hjf k c2)
                  · omega
              refine ⟨h1, h2, ?_⟩
              rw [withoutI_one es s j hlt he fun i m hm hi => (hyes.1 m hm).2 i hi]
              exact h3
          have hwl : (withoutI es s).length ≤ 4194304 := Nat.le_trans (withoutI_length es s) hlen
          have HLR : Hid (type_of% hLR) := hLR
          obtain ⟨x, hx⟩ : ∃ x, x = es[k] := ⟨_, rfl⟩
          rw [← hx] at q0 q1 q2 he HLR
          have hcm := it_same he
          clear hGI he HNO HKR HSO HEL HGG hyes hx hLR
          obtain ⟨x0, x1, x2⟩ := x
          simp only at q0 q1 q2 hcm
          generalize hRR : withoutI es s = R at *
          clear hRR
          go_wp2_with fail
          refine HS1.out.mono ?_
          rintro e Y ⟨rfl, hb5⟩
          have hbY := hbe.trans (hb5.mono hbe.size)
          obtain ⟨⟨p0', p1'⟩, hx5, ho5, h25, hw5⟩ := HA.out Y hbY
          have hwY : w3.heap.size < Y.heap.size := Nat.lt_of_lt_of_le hzX hbY.size
          have hW2Y := h25.size
          have hblY : b < Y.heap.size := Nat.lt_of_lt_of_le hbl hw5.size
          have hQ0 : Y.cell? ⟨w.heap.size, 1, none⟩ = some (.slice (some ⟨b, off, none⟩) es.length cap) ∧ Y.cell? ⟨b, off + k * 3, none⟩ = some (.string x0) ∧ Y.cell? ⟨b, off + k * 3 + 1, none⟩ = some (.string x1) ∧ Y.cell? ⟨b, off + k * 3 + 2, none⟩ = some (.string x2) := ⟨p1', (hw5.cell (p := ⟨b, off + k * 3, none⟩) hbl).trans q0, (hw5.cell (p := ⟨b, off + k * 3 + 1, none⟩) hbl).trans q1, (hw5.cell (p := ⟨b, off + k * 3 + 2, none⟩) hbl).trans q2⟩
          have HQ : Hid (∀ Z, Below Y.heap.size Y Z → Z.cell? ⟨w.heap.size, 1, none⟩ = some (.slice (some ⟨b, off, none⟩) es.length cap) ∧ Z.cell? ⟨b, off + k * 3, none⟩ = some (.string x0) ∧ Z.cell? ⟨b, off + k * 3 + 1, none⟩ = some (.string x1) ∧ Z.cell? ⟨b, off + k * 3 + 2, none⟩ = some (.string x2)) := fun Z hZ => ⟨(hZ.cell (p := ⟨w.heap.size, 1, none⟩) (by show w.heap.size < Y.heap.size; omega)).trans hQ0.1, (hZ.cell (p := ⟨b, off + k * 3, none⟩) hblY).trans hQ0.2.1, (hZ.cell (p := ⟨b, off + k * 3 + 1, none⟩) hblY).trans hQ0.2.2.1, (hZ.cell (p := ⟨b, off + k * 3 + 2, none⟩) hblY).trans hQ0.2.2.2⟩
          have c1 := hQ0.2.2.1
          clear q0 q1 q2 HS1 hb5 p0 p1 hbe hw4 HA ho4 h24 hx4 ho5 hw3
          go_upto_region 6 with fail
          go_cut [] from 30 to 41 (fun wx => ∃ g7 c7, wx.heap[w3.heap.size]? = some (.cells #[.int .i64 room, .slice (some ⟨g7, 0, none⟩) ((x0, x1, x2) :: R).length c7] 29 (0, 0)) ∧ wx.ownsRow W2.heap.size 50 3 (.slice (some ⟨g7, 0, none⟩) ((x0, x1, x2) :: R).length c7) ((x0, x1, x2) :: R).length (itV ((x0, x1, x2) :: R)) ∧ Below W2.heap.size W2 wx ∧ wx.cell? ⟨w.heap.size, 1, none⟩ = some (.slice (some ⟨b, off, none⟩) es.length cap) ∧ wx.cell? ⟨b, off + k * 3, none⟩ = some (.string x0) ∧ wx.cell? ⟨b, off + k * 3 + 1, none⟩ = some (.string x1) ∧ wx.cell? ⟨b, off + k * 3 + 2, none⟩ = some (.string x2))
          case first =>
            have bA : Below Y.heap.size Y (Y.alloc (.cells #[.string x0, .string x1, .string x2] 50)).drew := ((Below.refl _ _).alloc (Nat.le_refl _) _).drew
            have bB : Below Y.heap.size Y Y.drew := (Below.refl _ _).drew
            have hWA : Below w.heap.size w (Y.alloc (.cells #[.string x0, .string x1, .string x2] 50)).drew := hw5.trans (bA.mono hw5.size)
            have hWB : Below w.heap.size w Y.drew := hw5.drew
            have honeA : (Y.alloc (.cells #[.string x0, .string x1, .string x2] 50)).drew.ownsRow Y.heap.size 50 3 (.slice (some ⟨Y.heap.size, 0, none⟩) 1 1) 1 (itV [(x0, x1, x2)]) := own_oneI (w := (Y.alloc (.cells #[.string x0, .string x1, .string x2] 50)).drew) (MapKept.heap_alloc Y _).1 (Nat.le_refl _)
            have HST : Hid (∀ (w7 Z : World) (v7 : Value) (p : Nat), Below Y.heap.size Y Z → Y.heap.size ≤ p → w7.ownsRow Y.heap.size 50 3 v7 (1 + R.length) (itV [(x0, x1, x2)] ++ itV R) → Z.grownBy w7 (some p) → (v7 = .slice none 0 0 ↔ (Value.slice (some ⟨p, 0, none⟩) 1 1 = .slice none 0 0 ∧ R.length = 0)) → (w7.cell? ⟨w.heap.size, 1, none⟩ = some (.slice (some ⟨b, off, none⟩) es.length cap) ∧ w7.cell? ⟨b, off + k * 3, none⟩ = some (.string x0) ∧ w7.cell? ⟨b, off + k * 3 + 1, none⟩ = some (.string x1) ∧ w7.cell? ⟨b, off + k * 3 + 2, none⟩ = some (.string x2)) ∧ w7.cell? ⟨w3.heap.size, 0, none⟩ = some (.int .i64 room) ∧ w7.cell? ⟨w3.heap.size, 1, none⟩ = some (.slice (some ⟨g, 0, none⟩) es.length c) ∧ w7.frozen? ⟨w3.heap.size, 1, none⟩ = false ∧ ((w7.setCell ⟨w3.heap.size, 1, none⟩ v7).cell? ⟨w.heap.size, 1, none⟩ = some (.slice (some ⟨b, off, none⟩) es.length cap) ∧ (w7.setCell ⟨w3.heap.size, 1, none⟩ v7).cell? ⟨b, off + k * 3, none⟩ = some (.string x0) ∧ (w7.setCell ⟨w3.heap.size, 1, none⟩ v7).cell? ⟨b, off + k * 3 + 1, none⟩ = some (.string x1) ∧ (w7.setCell ⟨w3.heap.size, 1, none⟩ v7).cell? ⟨b, off + k * 3 + 2, none⟩ = some (.string x2)) ∧ ∃ g7 c7, v7 = .slice (some ⟨g7, 0, none⟩) (1 + R.length) c7 ∧ Hid ((w7.setCell ⟨w3.heap.size, 1, none⟩ v7).heap[w3.heap.size]? = some (.cells #[.int .i64 room, .slice (some ⟨g7, 0, none⟩) ((x0, x1, x2) :: R).length c7] 29 (0, 0)) ∧ (w7.setCell ⟨w3.heap.size, 1, none⟩ v7).ownsRow W2.heap.size 50 3 (.slice (some ⟨g7, 0, none⟩) ((x0, x1, x2) :: R).length c7) ((x0, x1, x2) :: R).length (itV ((x0, x1, x2) :: R)) ∧ Below W2.heap.size W2 (w7.setCell ⟨w3.heap.size, 1, none⟩ v7))) := fun w7 Z v7 p hZ hp ho7 hg7 hiff => by
              have b7 : Below Y.heap.size Y w7 := hZ.grown hg7 hZ.size (fun j hj => by simp only [Option.some.injEq] at hj; omega)
              obtain ⟨g7, c7, hv⟩ := own_someI ho7 (fun e => by
                have := (hiff.1 e).1
                cases this)
              have hx7 := (b7.block _ hwY).trans hx5
              have hne : ∀ bb j, bb ≠ w3.heap.size → (⟨w3.heap.size, 1, none⟩ : Addr) ≠ ⟨bb, j, none⟩ := fun bb j h e => h (congrArg Addr.block e).symm
              have hwb : w.heap.size ≠ w3.heap.size := by omega
              have hbb : b ≠ w3.heap.size := by omega
              obtain ⟨y1, y2, y3, y4⟩ := HQ.out w7 b7
              have hl : ((x0, x1, x2) :: R).length = 1 + R.length := by rw [List.length_cons]; omega
              refine ⟨⟨y1, y2, y3, y4⟩, by rw [cell_of_row _ _ 0 _ _ (0, 0) hx7]; rfl, by rw [cell_of_row _ _ 1 _ _ (0, 0) hx7]; rfl, frozen_of_row w7 _ 1 _ _ hx7, ⟨?_, ?_, ?_, ?_⟩, g7, c7, hv, ?_, ?_, ?_⟩
              · rw [World.cell?_setCell_other _ _ _ _ (hne _ _ hwb)]; exact y1
              · rw [World.cell?_setCell_other _ _ _ _ (hne _ _ hbb)]; exact y2
              · rw [World.cell?_setCell_other _ _ _ _ (hne _ _ hbb)]; exact y3
              · rw [World.cell?_setCell_other _ _ _ _ (hne _ _ hbb)]; exact y4
              · rw [hl, ← hv]
                exact heap_setCell_same _ _ 1 _ _ _ hx7
              · rw [hl, ← hv]
                rw [← itV_app] at ho7
                refine itLow ho7 hW2Y fun gg hgg => ?_
                have hgl' := (ho7.lt gg hgg).1
                rw [Below.heap_setCell _ _ _ _ (by simp; omega)]
              · exact (h25.trans (b7.mono hW2Y)).setCell (by simpa using hz3) _
            clear hx5 h25 p0' p1' c1
            go_region_held3 (fun w' => w'.cell? ⟨w.heap.size, 1, none⟩ = some (.slice (some ⟨b, off, none⟩) es.length cap) ∧ w'.cell? ⟨b, off + k * 3, none⟩ = some (.string x0) ∧ w'.cell? ⟨b, off + k * 3 + 1, none⟩ = some (.string x1) ∧ w'.cell? ⟨b, off + k * 3 + 2, none⟩ = some (.string x2))
              (first
                | exact hQ0
                | exact HQ.out _ bA
                | exact HQ.out _ (by assumption)
                | (revert b6; intro b6; exact HQ.out _ (b6.alloc b6.size _))
                | (revert hQ7; intro hQ7; exact hQ7)
                | (revert hQ8; intro hQ8; exact hQ8))
              (first
                | (go_at_call 33; first
                    | (refine (HWO.out _ hWA).mono ?_; rintro e w6 ⟨g6, c6, rfl, ho6, hb6⟩; have b6 : Below Y.heap.size Y w6 := bA.trans (hb6.mono bA.size); have one6 := itKept honeA hb6)
                    | (refine (HWO.out _ hWB).mono ?_; rintro e w6 ⟨g6, c6, rfl, ho6, hb6⟩; have b6 : Below Y.heap.size Y w6 := bB.trans (hb6.mono bB.size); have one6 : (w6.alloc (.cells #[.string x0, .string x1, .string x2] 50)).ownsRow Y.heap.size 50 3 (.slice (some ⟨w6.heap.size, 0, none⟩) 1 1) 1 (itV [(x0, x1, x2)]) := own_oneI (MapKept.heap_alloc w6 _).1 b6.size))
                | (revert one6; intro one6; refine step_append_ownI rfl (.tmp 35) (.tmp 39) 27 rfl Y.heap.size 50 i0 (.agg #[.string ⟨#[]⟩, .string ⟨#[]⟩, .string ⟨#[]⟩]) 3 48 Tryd.underlying27 hi0 hz0 hz1 hz2 rfl (by decide) (.slice (some ⟨Y.heap.size, 0, none⟩) 1 1) 1 (itV [(x0, x1, x2)]) rfl one6 ⟨g6, 0, none⟩ R.length c6 (itV R) rfl (itV_length R) (itCellsAd (itRow ho6) _ (Below.refl _ _)) (itV_one R) (by unfold maxLen; omega) (by omega) b6.size ?_; intro v7 w7 o7 gr7 n7; obtain ⟨hQ7, t0, t1, tf, hQ8, g7, c7, rfl, HR⟩ := HST.out w7 _ v7 _ b6 (Nat.le_refl _) o7 gr7 n7)
                | (revert one6; intro one6; refine step_append_ownI rfl (.tmp 35) (.tmp 39) 27 rfl Y.heap.size 50 i0 (.agg #[.string ⟨#[]⟩, .string ⟨#[]⟩, .string ⟨#[]⟩]) 3 48 Tryd.underlying27 hi0 hz0 hz1 hz2 rfl (by decide) (.slice (some ⟨w6.heap.size, 0, none⟩) 1 1) 1 (itV [(x0, x1, x2)]) rfl one6 ⟨g6, 0, none⟩ R.length c6 (itV R) rfl (itV_length R) (itCellsAd (itRow ho6) _ ((Below.refl _ _).alloc (Nat.le_refl _) _)) (itV_one R) (by unfold maxLen; omega) (by omega) (b6.alloc b6.size _).size ?_; intro v7 w7 o7 gr7 n7; obtain ⟨hQ7, t0, t1, tf, hQ8, g7, c7, rfl, HR⟩ := HST.out w7 _ v7 _ (b6.alloc b6.size _) b6.size o7 gr7 n7))
            all_goals
              go_wp2_with fail
              go_meet
              obtain ⟨z1, z2, z3⟩ := HR.out
              first
                | exact ⟨g7, c7, z1, z2, z3, hQ8⟩
                | exact ⟨g7, c7, z1, z2, z3.drew, hQ8⟩
          case rest =>
            obtain ⟨g7, c7, hx7, ho7, h27, m1, m2, m3, m4⟩ := hcut
            have hW2X := h27.size
            obtain ⟨d0, d1, f0, f1, HF⟩ := HBE.out wc _ _ _ _ ho7 h27
            obtain ⟨t0, t1⟩ : wc.cell? ⟨w3.heap.size, 0, none⟩ = some (.int .i64 room) ∧ wc.cell? ⟨w3.heap.size, 1, none⟩ = some (.slice (some ⟨g7, 0, none⟩) ((x0, x1, x2) :: R).length c7) := ⟨by rw [cell_of_row _ _ 0 _ _ (0, 0) hx7]; rfl, by rw [cell_of_row _ _ 1 _ _ (0, 0) hx7]; rfl⟩
            obtain ⟨w1, rfl⟩ : ∃ w1, w1 = wc := ⟨_, rfl⟩
            generalize hLn : ((x0, x1, x2) :: R).length = ln at *
            have HLN : Hid (type_of% hLn) := hLn
            clear hLn
            have hQ0' : w1.cell? ⟨w3.heap.size, 0, none⟩ = some (.int .i64 room) ∧ w1.cell? ⟨w3.heap.size, 1, none⟩ = some (.slice (some ⟨g7, 0, none⟩) ln c7) ∧ w1.cell? ⟨w.heap.size, 1, none⟩ = some (.slice (some ⟨b, off, none⟩) es.length cap) ∧ w1.cell? ⟨b, off + k * 3 + 2, none⟩ = some (.string x2) := ⟨t0, t1, m1, m4⟩
            have hne : ∀ bb i j, bb ≠ w.heap.size + 1 → (⟨w.heap.size + 1, i, none⟩ : Addr) ≠ ⟨bb, j, none⟩ := fun bb i j h e => h (congrArg Addr.block e).symm
            have hq5 : ∀ bb j u, bb ≠ w.heap.size + 1 → w1.cell? ⟨bb, j, none⟩ = some u → ((w1.setCell ⟨w.heap.size + 1, 0, none⟩ (.int .i64 room)).setCell ⟨w.heap.size + 1, 1, none⟩ (.slice (some ⟨g7, 0, none⟩) ln c7)).cell? ⟨bb, j, none⟩ = some u := fun bb j u h hc => by
              rw [World.cell?_setCell_other _ _ _ _ (hne _ _ _ h), World.cell?_setCell_other _ _ _ _ (hne _ _ _ h)]
              exact hc
            have hQ5' : ((w1.setCell ⟨w.heap.size + 1, 0, none⟩ (.int .i64 room)).setCell ⟨w.heap.size + 1, 1, none⟩ (.slice (some ⟨g7, 0, none⟩) ln c7)).cell? ⟨w3.heap.size, 0, none⟩ = some (.int .i64 room) ∧ ((w1.setCell ⟨w.heap.size + 1, 0, none⟩ (.int .i64 room)).setCell ⟨w.heap.size + 1, 1, none⟩ (.slice (some ⟨g7, 0, none⟩) ln c7)).cell? ⟨w3.heap.size, 1, none⟩ = some (.slice (some ⟨g7, 0, none⟩) ln c7) ∧ ((w1.setCell ⟨w.heap.size + 1, 0, none⟩ (.int .i64 room)).setCell ⟨w.heap.size + 1, 1, none⟩ (.slice (some ⟨g7, 0, none⟩) ln c7)).cell? ⟨w.heap.size, 1, none⟩ = some (.slice (some ⟨b, off, none⟩) es.length cap) ∧ ((w1.setCell ⟨w.heap.size + 1, 0, none⟩ (.int .i64 room)).setCell ⟨w.heap.size + 1, 1, none⟩ (.slice (some ⟨g7, 0, none⟩) ln c7)).cell? ⟨b, off + k * 3 + 2, none⟩ = some (.string x2) := ⟨hq5 _ _ _ (by omega) t0, hq5 _ _ _ (by omega) t1, hq5 _ _ _ (by omega) m1, hq5 _ _ _ (by omega) m4⟩
            clear hx7 ho7 h27 m2 m3 HBE HQ hQ0 hx5 h25 hw5 p0' p1' c1 HWO hbY hq5 hne t0 t1 m1 m4
            go_wp2_with fail
            go_region_held3 (fun w' => w'.cell? ⟨w3.heap.size, 0, none⟩ = some (.int .i64 room) ∧ w'.cell? ⟨w3.heap.size, 1, none⟩ = some (.slice (some ⟨g7, 0, none⟩) ln c7) ∧ w'.cell? ⟨w.heap.size, 1, none⟩ = some (.slice (some ⟨b, off, none⟩) es.length cap) ∧ w'.cell? ⟨b, off + k * 3 + 2, none⟩ = some (.string x2)) (first | exact hQ0' | exact hQ5') (fail)
            go_wp2_with fail
            obtain ⟨y0, y1, y2, y3⟩ := HF.out
            obtain ⟨e1, e2, e3⟩ := HLR.out
            refine ret_specGet (b := w.heap.size + 1) (x0 := .int .i64 room) (x1 := .slice (some ⟨g7, 0, none⟩) ln c7) rfl rfl rfl ⟨y0, y1⟩ ⟨some ⟨g7, 0, none⟩, c7, ?_⟩
            rw [e1, e2, e3, HLN.out]
            first
              | exact ⟨rfl, y2, y3⟩
              | exact ⟨rfl, y2, y3.drew⟩
        · have HN2 : Hid (∀ j (h : j < es.length), j < k + 1 → es[j].2.1 ≠ s) := fun j hj hjk => by
            by_cases cc : j = k
            · subst cc; exact he
            · exact HNO.out j hj (by omega)
          have HK2 : Hid (¬ StoreRight room es → k + 1 = 0) := fun h => absurd hyes h
          have hcm := it_other he
          clear hGI he HNO HKR HSO HWO HBE HEL HGG hyes ho4 h24 hx4
          go_wp2_with fail
          refine HS1.out.mono ?_
          rintro e w5 ⟨rfl, hb5⟩
          obtain ⟨⟨p0', p1'⟩, _, _, _, _⟩ := HA.out w5 (hbe.trans (hb5.mono hbe.size))
          have hbz := hw4.trans (hb5.mono hw4.size)
          have c1 := (hbz.cell (p := ⟨b, off + k * 3 + 1, none⟩) hbl).trans q1
          have hbe5 := hbe.trans (hb5.mono hbe.size)
          clear q0 q1 q2 HS1 hb5 hbz p0 p1 hbe hw4 HA
          generalize es[k].2.1 = x1 at *
          go_wp2_with fail
          go_roundw
          case rel => exact ⟨k + 1, by omega, by go_num, HK2.out, HN2.out, hbe5⟩
          case measure => simp [intOf]; omega
      · rw [decide_eq_false hyes] at HS1
        obtain ⟨rfl, rfl, rfl⟩ := HGG.out.2 hyes
        clear hyes HNO HKR HSO HWO HEL HGG ho4 h24 hx4
        go_wp2_with fail
        refine HS1.out.mono ?_
        rintro e w5 ⟨rfl, hb5⟩
        obtain ⟨_, hx5, ho5, h25, _⟩ := HA.out w5 (hbe.trans (hb5.mono hbe.size))
        obtain ⟨d0, d1, f0, f1, HF⟩ := HBE.out w5 _ _ _ _ ho5 h25
        obtain ⟨t0, t1⟩ : w5.cell? ⟨w3.heap.size, 0, none⟩ = some (.int .i64 room) ∧ w5.cell? ⟨w3.heap.size, 1, none⟩ = some (.slice (some ⟨g, 0, none⟩) L.length c) := ⟨by rw [cell_of_row _ _ 0 _ _ (0, 0) hx5]; rfl, by rw [cell_of_row _ _ 1 _ _ (0, 0) hx5]; rfl⟩
        clear HS1 hb5 hbe hw4 HA HBE ho5 h25 hx5 p0 p1
        go_wp2_with fail
        obtain ⟨y0, y1, y2, y3⟩ := HF.out
        exact ret_specGet (b := w.heap.size + 1) rfl rfl rfl ⟨y0, y1⟩ ⟨some ⟨g, 0, none⟩, c, rfl, y2, y3⟩
    · obtain ⟨rfl, rfl, rfl⟩ : out = ⟨#[]⟩ ∧ fnd = false ∧ L = es := by
        by_cases hyes : StoreRight room es
        · rcases HGG.out.1 hyes with ⟨_, h1, h2, h3⟩ | ⟨j, hj, he, _⟩
          · exact ⟨h1, h2, h3⟩
          · exact absurd he (HNO.out j hj (by omega))
        · exact HGG.out.2 hyes
      obtain ⟨d0, d1, f0, f1, HF⟩ := HBE.out wr _ _ _ _ ho4 h24
      obtain ⟨t0, t1⟩ : wr.cell? ⟨w3.heap.size, 0, none⟩ = some (.int .i64 room) ∧ wr.cell? ⟨w3.heap.size, 1, none⟩ = some (.slice (some ⟨g, 0, none⟩) L.length c) := ⟨by rw [cell_of_row _ _ 0 _ _ (0, 0) hx4]; rfl, by rw [cell_of_row _ _ 1 _ _ (0, 0) hx4]; rfl⟩
      have hk1 : ¬ (k : Int) < (L.length : Int) := by omega
      clear HNO HKR HSO HWO HEL HGG HA HBE ho4 h24 hx4 hbe hw4
      go_wp2_with fail
      obtain ⟨y0, y1, y2, y3⟩ := HF.out
      exact ret_specGet (b := w.heap.size + 1) rfl rfl rfl ⟨y0, y1⟩ ⟨some ⟨g, 0, none⟩, c, rfl, y2, y3⟩

end Go.Proofs.YtoebfpdalkpkdaaDoor

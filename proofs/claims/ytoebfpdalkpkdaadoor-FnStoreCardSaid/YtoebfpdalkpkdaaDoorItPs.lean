/-
  The walk of spec.StorePut.
-/
import Derived.Test.YtoebfpdalkpkdaaDoorItSg
import Derived.Test.YtoebfpdalkpkdaaDoorItPi
namespace Go.Proofs.YtoebfpdalkpkdaaDoor
open Go.RowKit

theorem ret_specPut {R : Ending → World → Prop} {W : World} {tmps : Array Value} {b : Nat} {x0 x1 : Value} (hp : tmps[6]?.getD undef = .pointer (some ⟨b, 0, none⟩))
    (h : W.cell? ⟨b, 0, none⟩ = some x0 ∧ W.cell? ⟨b, 1, none⟩ = some x1) (hR : R (.returned (.agg #[x0, x1])) W) :
    bodyPost Tryd.prog Tryd.f13 R .ret { tmps := tmps, defers := [] } W := by
  obtain ⟨h0, h1⟩ := h
  refine bodyPost_ret (v := .agg #[x0, x1]) ?_ rfl hR
  simp [results, Tryd.results13, go_sem, hp, h0, h1]

set_option maxHeartbeats 3200000 in
set_option maxRecDepth 100000 in
open Classical in
theorem specStorePut (room : Int) (av : Option Addr) (cap : Nat) (es : List Itm) (s out : ByteArray) (L : List Itm) (w : World) (hav : av = none → cap = 0) (hrow : ItAt w (.slice av es.length cap) es) (hb1 : itsBulk es ≤ 1048576) (hsi1 : s.size ≤ 1048576) (hG : StorePuts room es s out L) :
    Calls Tryd.prog 13 #[.agg #[.int .i64 room, .slice av es.length cap], .string s, .string out] w fun e w' => ∃ a c, e = .returned (.agg #[.int .i64 room, .slice a L.length c]) ∧ w'.ownsRow w.heap.size 50 3 (.slice a L.length c) L.length (itV L) ∧ Below w.heap.size w w' := by
  obtain ⟨i0, hi0, hz0, hz1, hz2⟩ := info_parts Tryd.infoItem
  have hb : itsBulk es ≤ 4194304 := by omega
  have hlen : es.length ≤ 4194304 := by unfold itsBulk at hb; omega
  have hB2 : Below w.heap.size w ((w.alloc (.cells #[.int .i64 room, .slice av es.length cap] 29)).alloc (.cells #[.int .i64 0, .slice none 0 0] 29)) := ((Below.refl _ _).alloc (Nat.le_refl _) _).alloc (by simp) _
  have hzW : ((w.alloc (.cells #[.int .i64 room, .slice av es.length cap] 29)).alloc (.cells #[.int .i64 0, .slice none 0 0] 29)).heap.size = w.heap.size + 1 + 1 := by simp
  have a0 : ((w.alloc (.cells #[.int .i64 room, .slice av es.length cap] 29)).alloc (.cells #[.int .i64 0, .slice none 0 0] 29)).cell? ⟨w.heap.size, 0, none⟩ = some (.int .i64 room) := by rw [itOld _ (by simp), itNew _ rfl]; rfl
  have a1 : ((w.alloc (.cells #[.int .i64 room, .slice av es.length cap] 29)).alloc (.cells #[.int .i64 0, .slice none 0 0] 29)).cell? ⟨w.heap.size, 1, none⟩ = some (.slice av es.length cap) := by rw [itOld _ (by simp), itNew _ rfl]; rfl
  have r0 : ((w.alloc (.cells #[.int .i64 room, .slice av es.length cap] 29)).alloc (.cells #[.int .i64 0, .slice none 0 0] 29)).heap[w.heap.size + 1]? = some (.cells #[.int .i64 0, .slice none 0 0] 29 (0, 0)) := by
    have := (MapKept.heap_alloc (w.alloc (.cells #[.int .i64 room, .slice av es.length cap] 29)) (.cells #[.int .i64 0, .slice none 0 0] 29)).1
    rwa [show (w.alloc (.cells #[.int .i64 room, .slice av es.length cap] 29)).heap.size = w.heap.size + 1 from by simp] at this
  have HCP : Hid (type_of% (specCopyStore room av cap es _ hav (hrow.below hB2) hlen)) := specCopyStore room av cap es _ hav (hrow.below hB2) hlen
  have HSO : Hid (∀ X, Below w.heap.size w X → Calls Tryd.prog 9 #[.agg #[.int .i64 room, .slice av es.length cap]] X fun e w' => e = .returned (.bool (decide (StoreRight room es))) ∧ Below X.heap.size X w') := fun X hX => specStoreOk room _ es X (hrow.below hX) hb
  have HWO : Hid (∀ Y, Below w.heap.size w Y → Calls Tryd.prog 33 #[.slice av es.length cap, .string s] Y fun e w' => ∃ g c, e = .returned (.slice (some ⟨g, 0, none⟩) (withoutI es s).length c) ∧ w'.ownsRow Y.heap.size 50 3 (.slice (some ⟨g, 0, none⟩) (withoutI es s).length c) (withoutI es s).length (itV (withoutI es s)) ∧ Below Y.heap.size Y w') := fun Y hY => specWithout _ es s Y (hrow.below hY) hlen
  have HKY : Hid (∀ Y, Calls Tryd.prog 27 #[.string s] Y fun e w' => e = .returned (.string (keyB s)) ∧ Y = w') := fun Y => specKey s Y (by omega)
  have HGG : Hid (type_of% hG) := hG
  clear hrow hb hG
  go_enter Tryd.func13, Tryd.ntmps13
  go_wp2_with fail
  generalize ((w.alloc (.cells #[.int .i64 room, .slice av es.length cap] 29)).alloc (.cells #[.int .i64 0, .slice none 0 0] 29)) = W2 at *
  have hs0 : w.heap.size < W2.heap.size := by omega
  have hs1 : w.heap.size + 1 < W2.heap.size := by omega
  clear hzW
  refine HCP.out.mono ?_
  rintro e w3 ⟨g, c, rfl, ho3, hb3⟩
  have bX : Below w3.heap.size w3 (w3.alloc (.cells #[.int .i64 room, .slice (some ⟨g, 0, none⟩) es.length c] 29)) := (Below.refl _ _).alloc (Nat.le_refl _) _
  have hX : (w3.alloc (.cells #[.int .i64 room, .slice (some ⟨g, 0, none⟩) es.length c] 29)).heap[w3.heap.size]? = some (.cells #[.int .i64 room, .slice (some ⟨g, 0, none⟩) es.length c] 29 (0, 0)) := (MapKept.heap_alloc w3 _).1
  have hzX : w3.heap.size < (w3.alloc (.cells #[.int .i64 room, .slice (some ⟨g, 0, none⟩) es.length c] 29)).heap.size := by simp
  have hz3 := hb3.size
  have HA : Hid (∀ Y : World, Below (w3.alloc (.cells #[.int .i64 room, .slice (some ⟨g, 0, none⟩) es.length c] 29)).heap.size (w3.alloc (.cells #[.int .i64 room, .slice (some ⟨g, 0, none⟩) es.length c] 29)) Y → (Y.cell? ⟨w.heap.size, 0, none⟩ = some (.int .i64 room) ∧ Y.cell? ⟨w.heap.size, 1, none⟩ = some (.slice av es.length cap)) ∧ Y.heap[w3.heap.size]? = some (.cells #[.int .i64 room, .slice (some ⟨g, 0, none⟩) es.length c] 29 (0, 0)) ∧ Y.ownsRow W2.heap.size 50 3 (.slice (some ⟨g, 0, none⟩) es.length c) es.length (itV es) ∧ Below W2.heap.size W2 Y ∧ Below w.heap.size w Y) := fun Y hY => by
    have h23 : Below W2.heap.size W2 Y := hb3.trans ((bX.trans (hY.mono bX.size)).mono hz3)
    exact ⟨⟨(h23.cell (p := ⟨w.heap.size, 0, none⟩) hs0).trans a0, (h23.cell (p := ⟨w.heap.size, 1, none⟩) hs0).trans a1⟩, (hY.block _ hzX).trans hX, itKept ho3 (bX.trans (hY.mono bX.size)), h23, hB2.trans (h23.mono (by omega))⟩
  obtain ⟨⟨p0, p1⟩, _, _, _, hbX⟩ := HA.out _ (Below.refl _ _)
  have HS1 : Hid (type_of% (HSO.out _ hbX)) := HSO.out _ hbX
  clear HCP HSO a0 a1 ho3 hb3 hbX hX
  go_wp2_with fail
  generalize (w3.alloc (.cells #[.int .i64 room, .slice (some ⟨g, 0, none⟩) es.length c] 29)) = X at *
  refine HS1.out.mono ?_
  rintro e w4 ⟨rfl, hb4⟩
  obtain ⟨⟨p40, p41⟩, hx4, ho4, h24, hw4⟩ := HA.out w4 hb4
  have hg4 : g < w4.heap.size ∧ W2.heap.size ≤ g := by
    have := ho4.lt g rfl
    exact ⟨this.2, this.1⟩
  have HBX : Hid (∀ (w6 : World) (a : Option Addr) (c m : Nat) (L : List Itm), w6.ownsRow W2.heap.size 50 3 (.slice a m c) m (itV L) → Below W2.heap.size W2 w6 → _) := fun w6 a c m L h1 h2 => boxEnd (room := room) hB2 hs1 r0 h1 h2
  by_cases hyes : StoreRight room es
  · obtain ⟨R, hRI, hLE⟩ := HGG.out.1 hyes
    have hRW : withoutI es s = R := by
      rcases hRI with ⟨hno, rfl⟩ | ⟨j, hj, he, _, rfl⟩
      · exact withoutI_none _ _ hno
      · exact withoutI_one es s j hj he fun i m hm hi => (hyes.1 m hm).2 i hi
    have hRl : R.length ≤ 100 := by
      rw [← hRW]
      have := withoutI_length es s
      have := hyes.2.2.1
      have := hyes.2.2.2
      omega
    have hr0 := hyes.2.1
    have hr1 := hyes.2.2.1
    rw [hRW] at HWO
    rw [decide_eq_true hyes]
    have HLE : Hid (type_of% hLE) := hLE
    generalize keyB s = ky at *
    have hwY : w3.heap.size < w4.heap.size := (Array.getElem?_eq_some_iff.1 hx4).1
    have hW2Y := h24.size
    clear HS1 HA p0 p1 bX HGG hRI hLE hRW hyes ho4 hg4 hB2 r0 hb4
    go_upto_region 4 with fail
    go_cut [] from 14 to 25 (fun wx => ∃ g7 c7, wx.heap[w3.heap.size]? = some (.cells #[.int .i64 room, .slice (some ⟨g7, 0, none⟩) ((ky, s, out) :: R).length c7] 29 (0, 0)) ∧ wx.ownsRow W2.heap.size 50 3 (.slice (some ⟨g7, 0, none⟩) ((ky, s, out) :: R).length c7) ((ky, s, out) :: R).length (itV ((ky, s, out) :: R)) ∧ Below W2.heap.size W2 wx ∧ wx.cell? ⟨w.heap.size, 0, none⟩ = some (.int .i64 room))
    case first =>
      have HQ : Hid (∀ Z, Below w4.heap.size w4 Z → Z.cell? ⟨w.heap.size, 1, none⟩ = some (.slice av es.length cap)) := fun Z hZ => (hZ.cell (p := ⟨w.heap.size, 1, none⟩) (by show w.heap.size < w4.heap.size; omega)).trans p41
      have hQ0 := HQ.out w4 (Below.refl _ _)
      have bA : Below w4.heap.size w4 (w4.alloc (.cells #[.string ky, .string s, .string out] 50)).drew := ((Below.refl _ _).alloc (Nat.le_refl _) _).drew
      have bB : Below w4.heap.size w4 w4.drew := (Below.refl _ _).drew
      have hWA : Below w.heap.size w (w4.alloc (.cells #[.string ky, .string s, .string out] 50)).drew := hw4.trans (bA.mono hw4.size)
      have hWB : Below w.heap.size w w4.drew := hw4.drew
      have honeA : (w4.alloc (.cells #[.string ky, .string s, .string out] 50)).drew.ownsRow w4.heap.size 50 3 (.slice (some ⟨w4.heap.size, 0, none⟩) 1 1) 1 (itV [(ky, s, out)]) := own_oneI (w := (w4.alloc (.cells #[.string ky, .string s, .string out] 50)).drew) (MapKept.heap_alloc w4 _).1 (Nat.le_refl _)
      have HST : Hid (∀ (w7 Z : World) (v7 : Value) (p : Nat), Below w4.heap.size w4 Z → w4.heap.size ≤ p → w7.ownsRow w4.heap.size 50 3 v7 (1 + R.length) (itV [(ky, s, out)] ++ itV R) → Z.grownBy w7 (some p) → (v7 = .slice none 0 0 ↔ (Value.slice (some ⟨p, 0, none⟩) 1 1 = .slice none 0 0 ∧ R.length = 0)) → w7.cell? ⟨w.heap.size, 1, none⟩ = some (.slice av es.length cap) ∧ w7.cell? ⟨w3.heap.size, 1, none⟩ = some (.slice (some ⟨g, 0, none⟩) es.length c) ∧ w7.frozen? ⟨w3.heap.size, 1, none⟩ = false ∧ (w7.setCell ⟨w3.heap.size, 1, none⟩ v7).cell? ⟨w.heap.size, 1, none⟩ = some (.slice av es.length cap) ∧ ∃ g7 c7, v7 = .slice (some ⟨g7, 0, none⟩) (1 + R.length) c7 ∧ Hid ((w7.setCell ⟨w3.heap.size, 1, none⟩ v7).heap[w3.heap.size]? = some (.cells #[.int .i64 room, .slice (some ⟨g7, 0, none⟩) ((ky, s, out) :: R).length c7] 29 (0, 0)) ∧ (w7.setCell ⟨w3.heap.size, 1, none⟩ v7).ownsRow W2.heap.size 50 3 (.slice (some ⟨g7, 0, none⟩) ((ky, s, out) :: R).length c7) ((ky, s, out) :: R).length (itV ((ky, s, out) :: R)) ∧ Below W2.heap.size W2 (w7.setCell ⟨w3.heap.size, 1, none⟩ v7) ∧ (w7.setCell ⟨w3.heap.size, 1, none⟩ v7).cell? ⟨w.heap.size, 0, none⟩ = some (.int .i64 room))) := fun w7 Z v7 p hZ hp ho7 hg7 hiff => by
        have b7 : Below w4.heap.size w4 w7 := hZ.grown hg7 hZ.size (fun j hj => by simp only [Option.some.injEq] at hj; omega)
        obtain ⟨g7, c7, hv⟩ := own_someI ho7 (fun e => by
          have := (hiff.1 e).1
          cases this)
        have hx7 := (b7.block _ hwY).trans hx4
        have hne : ∀ bb j, bb ≠ w3.heap.size → (⟨w3.heap.size, 1, none⟩ : Addr) ≠ ⟨bb, j, none⟩ := fun bb j h e => h (congrArg Addr.block e).symm
        have hwb : w.heap.size ≠ w3.heap.size := by omega
        have y1 := HQ.out w7 b7
        have y0 := (b7.cell (p := ⟨w.heap.size, 0, none⟩) (by show w.heap.size < w4.heap.size; omega)).trans p40
        have hl : ((ky, s, out) :: R).length = 1 + R.length := by rw [List.length_cons]; omega
        refine ⟨y1, by rw [cell_of_row _ _ 1 _ _ (0, 0) hx7]; rfl, frozen_of_row w7 _ 1 _ _ hx7, ?_, g7, c7, hv, ?_, ?_, ?_, ?_⟩
        · rw [World.cell?_setCell_other _ _ _ _ (hne _ _ hwb)]; exact y1
        · rw [hl, ← hv]
          exact heap_setCell_same _ _ 1 _ _ _ hx7
        · rw [hl, ← hv]
          rw [← itV_app] at ho7
          refine itLow ho7 hW2Y fun gg hgg => ?_
          have hgl' := (ho7.lt gg hgg).1
          rw [Below.heap_setCell _ _ _ _ (by simp; omega)]
        · exact (h24.trans (b7.mono hW2Y)).setCell (by simpa using hz3) _
        · rw [World.cell?_setCell_other _ _ _ _ (hne _ _ hwb)]; exact y0
      clear hx4 h24 p40 p41
      go_region_held3 (fun w' => w'.cell? ⟨w.heap.size, 1, none⟩ = some (.slice av es.length cap))
        (first
          | exact hQ0
          | exact HQ.out _ bA
          | exact HQ.out _ (by assumption)
          | (revert b6; intro b6; exact HQ.out _ (b6.alloc b6.size _))
          | (revert hQ7; intro hQ7; exact hQ7)
          | (revert hQ8; intro hQ8; exact hQ8))
        (first
          | (go_at_call 27; refine (HKY.out _).mono ?_; rintro e wk ⟨rfl, rfl⟩)
          | (go_at_call 33; first
              | (refine (HWO.out _ hWA).mono ?_; rintro e w6 ⟨g6, c6, rfl, ho6, hb6⟩; have b6 : Below w4.heap.size w4 w6 := bA.trans (hb6.mono bA.size); have one6 := itKept honeA hb6)
              | (refine (HWO.out _ hWB).mono ?_; rintro e w6 ⟨g6, c6, rfl, ho6, hb6⟩; have b6 : Below w4.heap.size w4 w6 := bB.trans (hb6.mono bB.size); have one6 : (w6.alloc (.cells #[.string ky, .string s, .string out] 50)).ownsRow w4.heap.size 50 3 (.slice (some ⟨w6.heap.size, 0, none⟩) 1 1) 1 (itV [(ky, s, out)]) := own_oneI (MapKept.heap_alloc w6 _).1 b6.size))
          | (revert one6; intro one6; refine step_append_ownI rfl (.tmp 19) (.tmp 23) 27 rfl w4.heap.size 50 i0 (.agg #[.string ⟨#[]⟩, .string ⟨#[]⟩, .string ⟨#[]⟩]) 3 48 Tryd.underlying27 hi0 hz0 hz1 hz2 rfl (by decide) (.slice (some ⟨w4.heap.size, 0, none⟩) 1 1) 1 (itV [(ky, s, out)]) rfl one6 ⟨g6, 0, none⟩ R.length c6 (itV R) rfl (itV_length R) (itCellsAd (itRow ho6) _ (Below.refl _ _)) (itV_one R) (by unfold maxLen; omega) (by omega) b6.size ?_; intro v7 w7 o7 gr7 n7; obtain ⟨hQ7, t1, tf, hQ8, g7, c7, rfl, HR⟩ := HST.out w7 _ v7 _ b6 (Nat.le_refl _) o7 gr7 n7)
          | (revert one6; intro one6; refine step_append_ownI rfl (.tmp 19) (.tmp 23) 27 rfl w4.heap.size 50 i0 (.agg #[.string ⟨#[]⟩, .string ⟨#[]⟩, .string ⟨#[]⟩]) 3 48 Tryd.underlying27 hi0 hz0 hz1 hz2 rfl (by decide) (.slice (some ⟨w6.heap.size, 0, none⟩) 1 1) 1 (itV [(ky, s, out)]) rfl one6 ⟨g6, 0, none⟩ R.length c6 (itV R) rfl (itV_length R) (itCellsAd (itRow ho6) _ ((Below.refl _ _).alloc (Nat.le_refl _) _)) (itV_one R) (by unfold maxLen; omega) (by omega) (b6.alloc b6.size _).size ?_; intro v7 w7 o7 gr7 n7; obtain ⟨hQ7, t1, tf, hQ8, g7, c7, rfl, HR⟩ := HST.out w7 _ v7 _ (b6.alloc b6.size _) b6.size o7 gr7 n7))
      all_goals
        go_wp2_with fail
        go_meet
        obtain ⟨z1, z2, z3, z4⟩ := HR.out
        first
          | exact ⟨g7, c7, z1, z2, z3, z4⟩
          | exact ⟨g7, c7, z1, z2, z3.drew, z4⟩
    case rest =>
      obtain ⟨g7, c7, hx7, ho7, h27, m0⟩ := hcut
      obtain ⟨w1, rfl⟩ : ∃ w1, w1 = wc := ⟨_, rfl⟩
      have HLP : Hid (((ky, s, out) :: R).length ≤ 101) := by
        show _ ≤ _
        rw [List.length_cons]
        omega
      generalize ((ky, s, out) :: R) = P at *
      have hP1 := HLP.out
      have t0 : w1.cell? ⟨w3.heap.size, 0, none⟩ = some (.int .i64 room) := by rw [cell_of_row _ _ 0 _ _ (0, 0) hx7]; rfl
      have t1 : w1.cell? ⟨w3.heap.size, 1, none⟩ = some (.slice (some ⟨g7, 0, none⟩) P.length c7) := by rw [cell_of_row _ _ 1 _ _ (0, 0) hx7]; rfl
      have tf := frozen_of_row w1 w3.heap.size 1 _ _ hx7
      clear hx4 h24 hw4 p40 p41 HKY HWO
      by_cases hbig : room < (P.length : Int)
      · obtain ⟨k, rfl⟩ : ∃ k : Nat, room = k := ⟨room.toNat, by omega⟩
        have hkl : k < P.length := by omega
        have hcap : P.length ≤ c7 := by
          rcases ho7.2 with ⟨e, _⟩ | ⟨g', cap', cur, e, _, _, h1, _⟩
          · cases e
          · simp only [Value.slice.injEq, true_and] at e
            rw [e.2]
            exact h1
        have hlk : (P.take k).length = k := by simp; omega
        have HFI : Hid (w1.ownsRow W2.heap.size 50 3 (.slice (some ⟨g7, 0, none⟩) k c7) k (itV (P.take k))) := own_firstI ho7 rfl (by omega) (by omega)
        have bE : Below w1.heap.size w1 (w1.alloc (.cells #[] 50)) := (Below.refl _ _).alloc (Nat.le_refl _) _
        have hE : (w1.alloc (.cells #[] 50)).ownsRow w1.heap.size 50 3 (.slice (some ⟨w1.heap.size, 0, none⟩) 0 0) 0 [] := own_emptyI (MapKept.heap_alloc w1 _).1 (Nat.le_refl _)
        have hLL : L = P.take k := by
          have := HLE.out
          rwa [Int.toNat_natCast] at this
        have HLn : Hid (L.length = k) := by
          show _ = _
          rw [hLL, hlk]
        have HCE : Hid (∀ j u, (itV L)[j]? = some u → (w1.alloc (.cells #[] 50)).cell? ((⟨g7, 0, none⟩ : Addr).add j) = some u) := by
          rw [hLL]
          have hat : ItAt w1 (.slice (some ⟨g7, 0, none⟩) (P.take k).length c7) (P.take k) := by
            rw [hlk]
            exact itRow (es := P.take k) (by rw [hlk]; exact HFI.out)
          exact itCellsAd hat _ bE
        have hgl : g7 < w1.heap.size := (ho7.lt g7 rfl).2
        have hx5 : w3.heap.size < w1.heap.size := (Array.getElem?_eq_some_iff.1 hx7).1
        have HEND : Hid (∀ (w5 : World) (v5 : Value), w5.ownsRow w1.heap.size 50 3 v5 k (itV L) → (w1.alloc (.cells #[] 50)).grownBy w5 (some w1.heap.size) → ¬ v5 = .slice none 0 0 → ∃ g5 c5, v5 = .slice (some ⟨g5, 0, none⟩) k c5 ∧ w5.cell? ⟨w3.heap.size, 0, none⟩ = some (.int .i64 k) ∧ w5.cell? ⟨w3.heap.size, 1, none⟩ = some (.slice (some ⟨g7, 0, none⟩) P.length c7) ∧ w5.frozen? ⟨w3.heap.size, 1, none⟩ = false ∧ Hid ((w5.setCell ⟨w3.heap.size, 1, none⟩ v5).ownsRow W2.heap.size 50 3 v5 k (itV L) ∧ Below W2.heap.size W2 (w5.setCell ⟨w3.heap.size, 1, none⟩ v5))) := fun w5 v5 ho' hg hiff => by
          have b5 : Below w1.heap.size w1 w5 := bE.grown hg (by simp) (fun k hk => by simp only [Option.some.injEq] at hk; omega)
          obtain ⟨g5, c5, hv⟩ := own_someI ho' hiff
          have hx6 := (b5.block _ hx5).trans hx7
          refine ⟨g5, c5, hv, ?_, ?_, frozen_of_row w5 _ 1 _ _ hx6, ?_, ?_⟩
          · rw [cell_of_row _ _ 0 _ _ (0, 0) hx6]; rfl
          · rw [cell_of_row _ _ 1 _ _ (0, 0) hx6]; rfl
          · refine itLow ho' h27.size fun g' hg' => ?_
            have hgl' := (ho'.lt g' hg').1
            rw [Below.heap_setCell _ _ _ _ (by simp; omega)]
          · exact (h27.trans (b5.mono h27.size)).setCell (by simpa using hz3) _
        have m0' : (w1.alloc (.cells #[] 50)).cell? ⟨w.heap.size, 0, none⟩ = some (.int .i64 k) := (bE.cell (p := ⟨w.heap.size, 0, none⟩) (World.block_lt_of_cell? w1 ⟨w.heap.size, 0, none⟩ m0)).trans m0
        have hkc : (k : Int) ≤ (c7 : Int) := by omega
        have hk0 : (0 : Int) ≤ (k : Int) := by omega
        have HLk : Hid (L.length * 3 = k * 3) := by
          show _ = _
          rw [HLn.out]
        clear hx7 ho7 h27 HFI hlk hLL HLE HLP
        go_wp2_with (at_builtin; refine wpList_append_own _ rfl _ _ 27 rfl w1.heap.size 50 i0 (.agg #[.string ⟨#[]⟩, .string ⟨#[]⟩, .string ⟨#[]⟩]) 3 48 Tryd.underlying27 hi0 hz0 hz1 hz2 rfl (by decide) _ _ _ rfl hE ⟨g7, 0, none⟩ k c7 (itV L) rfl (by rw [itV_length, HLk.out]) HCE.out (itV_one _) (by unfold maxLen; omega) (by omega) (by simp) ?_)
        intro v5 w5 o5 g5 n5
        obtain ⟨g6, c6, rfl, p0, p1, pf, HR⟩ := HEND.out w5 v5 o5 g5 n5
        obtain ⟨d0, d1, f0, f1, HF⟩ := HBX.out _ _ _ _ _ HR.out.1 HR.out.2
        clear HEND HBX HR o5 g5 n5 hE bE HCE t0 t1 tf
        go_wp2_with fail
        obtain ⟨q0, q1, q2, q3⟩ := HF.out
        refine ret_specPut (b := w.heap.size + 1) rfl ⟨q0, q1⟩ ⟨some ⟨g6, 0, none⟩, c6, ?_⟩
        rw [HLn.out]
        exact ⟨rfl, q2, q3⟩
      · have HLL : Hid (L = P) := by
          show _ = _
          rw [HLE.out, List.take_of_length_le (by omega)]
        obtain ⟨d0, d1, f0, f1, HF⟩ := HBX.out _ _ _ _ _ ho7 h27
        have hle : (P.length : Int) ≤ room := by omega
        clear hx7 ho7 h27 HLE HLP HBX
        go_wp2_with fail
        obtain ⟨q0, q1, q2, q3⟩ := HF.out
        refine ret_specPut (b := w.heap.size + 1) rfl ⟨q0, q1⟩ ⟨some ⟨g7, 0, none⟩, c7, ?_⟩
        rw [HLL.out]
        exact ⟨rfl, q2, q3⟩
  · have HD : L = es := HGG.out.2 hyes
    subst HD
    obtain ⟨d0, d1, f0, f1, HF⟩ := HBX.out _ _ _ _ _ ho4 h24
    have o0 : w4.cell? ⟨w3.heap.size, 0, none⟩ = some (.int .i64 room) := by rw [cell_of_row _ _ 0 _ _ (0, 0) hx4]; rfl
    have o1 : w4.cell? ⟨w3.heap.size, 1, none⟩ = some (.slice (some ⟨g, 0, none⟩) L.length c) := by rw [cell_of_row _ _ 1 _ _ (0, 0) hx4]; rfl
    rw [decide_eq_false hyes]
    clear HS1 HA p0 p1 bX r0 hB2 ho4 h24 hw4 hx4 HGG HBX HWO HKY hyes
    go_wp2_with fail
    obtain ⟨q0, q1, q2, q3⟩ := HF.out
    exact ret_specPut (b := w.heap.size + 1) rfl ⟨q0, q1⟩ ⟨some ⟨g, 0, none⟩, c, rfl, q2, q3⟩

end Go.Proofs.YtoebfpdalkpkdaaDoor

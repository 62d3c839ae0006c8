/-
  The walk of the law FnExactStoreGet.
-/
import Derived.Test.YtoebfpdalkpkdaaDoorItSg
import Derived.Test.YtoebfpdalkpkdaaDoorItZ
import Derived.Deep.RegionHeld3
namespace Go.Proofs.YtoebfpdalkpkdaaDoor
open Go.RowKit

set_option maxHeartbeats 3200000 in
set_option maxRecDepth 100000 in
theorem walkStoreGet (room : Int) (s : ByteArray) (v : Value) (es : List Itm) (w : World) (h : ItAt w v es) (hl : es.length ≤ maxLen) (hsz : ∀ e ∈ es, e.1.size ≤ maxLen ∧ e.2.1.size ≤ maxLen ∧ e.2.2.size ≤ maxLen) (hc : w.cell? ⟨3, 15, none⟩ = some (.int .u8 4)) :
    Calls Tryd.prog 5 #[.agg #[.int .i64 room, v], .string s] w fun e w' => e = .returned (.bool true) ∧ Below w.heap.size w w' := by
  obtain ⟨av, capv, rfl, _⟩ := itOpen h
  have hB1 : Below w.heap.size w (w.alloc (.cells #[.int .i64 room, .slice av es.length capv] 24)) := (Below.refl _ _).alloc (Nat.le_refl _) _
  by_cases hbig : (1048576 : Int) < (s.size : Int)
  · clear h hsz hc
    go_enter Tryd.func5, Tryd.ntmps5
    go_wp2_with fail
    go_ret
    exact ⟨rfl, hB1⟩
  have HZ : Hid (∀ wx : World, Below w.heap.size w wx → Calls Tryd.prog 8 #[.agg #[.int .i64 room, .slice av es.length capv], .int .i64 1048576] wx fun e w' => e = .returned (.int .i64 (leftI (itsBulk es) 1048576)) ∧ Below wx.heap.size wx w') := fun wx hx => lawsSzStore room _ es wx (h.below hx) hl hsz
  by_cases hbk : itsBulk es ≤ 1048576
  · have hz1 : leftI (itsBulk es) 1048576 = 1048576 - (itsBulk es : Nat) := if_pos (by omega)
    rw [hz1] at HZ
    have hlen : es.length ≤ 1048576 := by unfold itsBulk at hbk; omega
    have hct : ∀ wx : World, Below w.heap.size w wx → wx.cell? ⟨3, 15, none⟩ = some (.int .u8 4) := fun wx hx => (hx.cell (p := ⟨3, 15, none⟩) (World.block_lt_of_cell? w ⟨3, 15, none⟩ hc)).trans hc
    obtain ⟨out, fnd, L, hG⟩ := storeGets_some room es s
    have hLk := hG.length
    have HT : Hid (∀ wx : World, Below w.heap.size w wx → Calls Tryd.prog 10 #[.agg #[.int .i64 room, .slice av es.length capv]] wx fun e w' => ∃ g, e = .returned (.agg #[.int .i64 room, .slice (some ⟨g, 0, none⟩) es.length es.length]) ∧ w'.ownsRow wx.heap.size 50 3 (.slice (some ⟨g, 0, none⟩) es.length es.length) es.length (itV es) ∧ Below wx.heap.size wx w') := fun wx hx => lawsToStore room _ es wx (h.below hx) hlen
    have HS : Hid (∀ (g : Nat) (wx : World), ItAt wx (.slice (some ⟨g, 0, none⟩) es.length es.length) es → Calls Tryd.prog 17 #[.agg #[.int .i64 room, .slice (some ⟨g, 0, none⟩) es.length es.length], .string s] wx fun e w' => ∃ a c, e = .returned (.tuple #[.agg #[.int .i64 room, .slice a L.length c], .string out, .bool fnd]) ∧ w'.ownsRow wx.heap.size 50 3 (.slice a L.length c) L.length (itV L) ∧ Below wx.heap.size wx w') := fun g wx h => specStoreGet room (some ⟨g, 0, none⟩) es.length es s out fnd L wx (fun e => by cases e) h (by omega) hG
    have HI : Hid (∀ (u : Value) (wx : World), ItAt wx u es → Below w.heap.size w wx → Calls Tryd.prog 18 #[.agg #[.int .i64 room, u], .string s] wx fun e w' => ∃ a c, e = .returned (.tuple #[.agg #[.int .i64 room, .slice a L.length c], .string out, .bool fnd]) ∧ w'.ownsRow wx.heap.size 50 3 (.slice a L.length c) L.length (itV L) ∧ Below wx.heap.size wx w') := fun u wx h hx => implStoreGet room u es s out fnd L wx h (by omega) (hct wx hx) hG
    have hoo : (out.toList == out.toList) = true := beq_self_eq_true _
    have hff : (fnd != fnd) = false := by cases fnd <;> rfl
    have hLl : L.length ≤ 1048576 := by omega
    have HE : Hid (∀ (ua ub : Value) (L : List Itm) (wx : World), L.length ≤ 1048576 → ItAt wx ua L → ItAt wx ub L → Calls Tryd.prog 12 #[.agg #[.int .i64 room, ua], .agg #[.int .i64 room, ub]] wx fun e w' => e = .returned (.bool true) ∧ Below wx.heap.size wx w') := fun ua ub L wx hl ha hb => lawsEqStore room ua ub L wx ha hb (by omega)
    have HM : Hid (∀ (u : Value) (L : List Itm) (wx : World), L.length ≤ 1048576 → wx.ownsRow w.heap.size 50 3 u L.length (itV L) → Calls Tryd.prog 15 #[.agg #[.int .i64 room, u], .int .i64 1] wx fun e w' => e = .returned (.int .i64 ((1 + L.length * 3 : Nat) : Int)) ∧ w'.ownsRow w.heap.size 50 3 u L.length (itV (marksI 1 L.length)) ∧ wx.grownBy w' u.ownBlock) := fun u L wx hl ho => lawsMarkStore room u L w.heap.size wx ho (by omega)
    have HH : Hid (∀ (u : Value) (m : Nat) (wx : World), m ≤ 1048576 → wx.ownsRow w.heap.size 50 3 u m (itV (marksI 1 m)) → Calls Tryd.prog 16 #[.agg #[.int .i64 room, u], .int .i64 1] wx fun e w' => e = .returned (.int .i64 ((1 + m * 3 : Nat) : Int)) ∧ Below wx.heap.size wx w') := fun u m wx hl ho => lawsHeldStore room u m w.heap.size wx ho (by omega)
    clear h hz1 hc hct hsz hG hLk
    generalize hB : itsBulk es = B at *
    clear hB
    have hneg : ¬ (1048576 - (B : Int) < 0) := by omega
    go_enter Tryd.func5, Tryd.ntmps5
    go_wp2_with fail
    refine (HZ.out _ hB1).mono ?_
    rintro e w1 ⟨rfl, hb1⟩
    have M1 := lmemBase.below hb1
    clear HZ hb1 hB1
    obtain ⟨a0, a1⟩ := M1.argCells
    have N1 : Hid (type_of% M1) := M1
    clear M1
    go_wp2_with fail
    refine (HT.out _ N1.out.bel).mono ?_
    rintro e w2 ⟨g2, rfl, ho2, hb2⟩
    have HS2 : Hid (type_of% (HS.out g2 w2 (itRow ho2))) := HS.out g2 w2 (itRow ho2)
    have M2 := N1.out.below hb2
    clear a0 a1 N1 ho2 hb2 HS
    have N2 : Hid (type_of% M2) := M2
    clear M2
    go_wp2_with fail
    refine HS2.out.mono ?_
    rintro e w3 ⟨aW, cW, rfl, ho3, hb3⟩
    have M3 := N2.out.add hb3 ho3
    obtain ⟨a0, a1⟩ := M3.argCells
    have N3 : Hid (type_of% M3) := M3
    have HT3 : Hid (type_of% (HT.out _ M3.bel)) := HT.out _ M3.bel
    clear M3 N2 HS2 ho3 hb3
    go_wp2_with fail
    refine HT3.out.mono ?_
    rintro e w4 ⟨g4, rfl, ho4, hb4⟩
    have M4 := N3.out.add hb4 ho4
    have HI4 : Hid (type_of% (HI.out _ _ (M4.items (List.mem_cons_self ..)) M4.bel)) := HI.out _ _ (M4.items (List.mem_cons_self ..)) M4.bel
    have N4 : Hid (type_of% M4) := M4
    clear a0 a1 HT3 N3 ho4 hb4 M4
    go_wp2_with fail
    refine HI4.out.mono ?_
    rintro e w5 ⟨aG, cG, rfl, ho5, hb5⟩
    have M5 := N4.out.add hb5 ho5
    obtain ⟨g0, g1⟩ := M5.cells (e := (w5.heap.size, .slice aG L.length cG, L)) (by simp)
    obtain ⟨c0, c1⟩ := M5.cells (e := (w3.heap.size, .slice aW L.length cW, L)) (by simp)
    have HE5 : Hid (type_of% (HE.out _ _ _ _ hLl (M5.items (e := (w5.heap.size, .slice aG L.length cG, L)) (by simp)) (M5.items (e := (w3.heap.size, .slice aW L.length cW, L)) (by simp)))) := HE.out _ _ _ _ hLl (M5.items (e := (w5.heap.size, .slice aG L.length cG, L)) (by simp)) (M5.items (e := (w3.heap.size, .slice aW L.length cW, L)) (by simp))
    have N5 : Hid (type_of% M5) := M5
    clear HI4 N4 ho5 hb5 M5
    go_wp2_with fail
    refine HE5.out.mono ?_
    rintro e w6 ⟨rfl, hb6⟩
    have M6 := N5.out.below hb6
    obtain ⟨x0, x1⟩ := M6.cells (e := (w4.heap.size, .slice (some ⟨g4, 0, none⟩) es.length es.length, es)) (by simp)
    obtain ⟨a0, a1⟩ := M6.argCells
    have hQ6 : w6.cell? ⟨w4.heap.size, 0, none⟩ = some (.int .i64 room) ∧ w6.cell? ⟨w4.heap.size, 1, none⟩ = some (.slice (some ⟨g4, 0, none⟩) es.length es.length) ∧ w6.cell? ⟨w.heap.size, 0, none⟩ = some (.int .i64 room) ∧ w6.cell? ⟨w.heap.size, 1, none⟩ = some (.slice av es.length capv) := ⟨x0, x1, a0, a1⟩
    have HQ : Hid (∀ Z, Below w6.heap.size w6 Z → (Z.cell? ⟨w4.heap.size, 0, none⟩ = some (.int .i64 room) ∧ Z.cell? ⟨w4.heap.size, 1, none⟩ = some (.slice (some ⟨g4, 0, none⟩) es.length es.length) ∧ Z.cell? ⟨w.heap.size, 0, none⟩ = some (.int .i64 room) ∧ Z.cell? ⟨w.heap.size, 1, none⟩ = some (.slice av es.length capv)) ∧ ItAt Z (.slice (some ⟨g4, 0, none⟩) es.length es.length) es) := fun Z hZ => by
      have h2 := M6.below hZ
      obtain ⟨y0, y1⟩ := h2.cells (e := (w4.heap.size, .slice (some ⟨g4, 0, none⟩) es.length es.length, es)) (by simp)
      obtain ⟨b0, b1⟩ := h2.argCells
      exact ⟨⟨y0, y1, b0, b1⟩, h2.items (e := (w4.heap.size, .slice (some ⟨g4, 0, none⟩) es.length es.length, es)) (by simp)⟩
    have N6 : Hid (type_of% M6) := M6
    have HT6 : Hid (type_of% (HT.out _ M6.bel.drew)) := HT.out _ M6.bel.drew
    clear g0 g1 c0 c1 HE5 N5 hb6 M6 x0 x1 a0 a1
    go_wp2_with fail
    go_region_held3 (fun w' => w'.cell? ⟨w4.heap.size, 0, none⟩ = some (.int .i64 room) ∧ w'.cell? ⟨w4.heap.size, 1, none⟩ = some (.slice (some ⟨g4, 0, none⟩) es.length es.length) ∧ w'.cell? ⟨w.heap.size, 0, none⟩ = some (.int .i64 room) ∧ w'.cell? ⟨w.heap.size, 1, none⟩ = some (.slice av es.length capv))
      (first
        | exact hQ6
        | exact (HQ.out _ (by assumption)).1)
      (first
        | (go_at_call 10; refine HT6.out.mono ?_; rintro e w7 ⟨g7, rfl, ho7, hb7⟩; have hb67 : Below w6.heap.size w6 w7 := (Below.refl _ _).drew.trans hb7)
        | (revert hb67; intro hb67; go_at_call 12; refine (HE.out _ _ es _ hlen (HQ.out _ hb67).2 (itRow ho7)).mono ?_; rintro e w8 ⟨rfl, hb8⟩; have hb68 : Below w6.heap.size w6 w8 := hb67.trans (hb8.mono hb67.size)))
    have M8 := N6.out.below hb68
    obtain ⟨x0, x1⟩ := M8.cells (e := (w4.heap.size, .slice (some ⟨g4, 0, none⟩) es.length es.length, es)) (by simp)
    have HM8 : Hid (type_of% (HM.out _ es _ hlen (M8.row (w4.heap.size, .slice (some ⟨g4, 0, none⟩) es.length es.length, es) (by simp)))) := HM.out _ es _ hlen (M8.row (w4.heap.size, .slice (some ⟨g4, 0, none⟩) es.length es.length, es) (by simp))
    have N8 : Hid (type_of% M8) := M8
    clear hQ6 HQ HT6 N6 hb67 hb68 hb7 hb8 ho7 M8
    go_wp2_with fail
    refine HM8.out.mono ?_
    rintro e w9 ⟨rfl, ho9, hg9⟩
    have M9 := N8.out.mark (l1 := [(w5.heap.size, .slice aG L.length cG, L)]) (l2 := [(w3.heap.size, .slice aW L.length cW, L)]) hg9 (marksI_length 1 _) ho9
    obtain ⟨g0, g1⟩ := M9.cells (e := (w5.heap.size, .slice aG L.length cG, L)) (by simp)
    obtain ⟨c0, c1⟩ := M9.cells (e := (w3.heap.size, .slice aW L.length cW, L)) (by simp)
    have HE9 : Hid (type_of% (HE.out _ _ _ _ hLl (M9.items (e := (w5.heap.size, .slice aG L.length cG, L)) (by simp)) (M9.items (e := (w3.heap.size, .slice aW L.length cW, L)) (by simp)))) := HE.out _ _ _ _ hLl (M9.items (e := (w5.heap.size, .slice aG L.length cG, L)) (by simp)) (M9.items (e := (w3.heap.size, .slice aW L.length cW, L)) (by simp))
    have N9 : Hid (type_of% M9) := M9
    obtain ⟨qx, hqx⟩ : ∃ qx : Int, qx = ((1 + es.length * 3 : Nat) : Int) := ⟨_, rfl⟩
    have hqx0 : ¬ qx < 0 := by omega
    rw [← hqx]
    clear hqx x0 x1 HM8 N8 ho9 hg9 M9
    go_wp2_with fail
    refine HE9.out.mono ?_
    rintro e w10 ⟨rfl, hb10⟩
    have M10 := N9.out.below hb10
    obtain ⟨g0', g1'⟩ := M10.cells (e := (w5.heap.size, .slice aG L.length cG, L)) (by simp)
    have HM10 : Hid (type_of% (HM.out _ L _ hLl (M10.row (w5.heap.size, .slice aG L.length cG, L) (by simp)))) := HM.out _ L _ hLl (M10.row (w5.heap.size, .slice aG L.length cG, L) (by simp))
    have N10 : Hid (type_of% M10) := M10
    clear g0 g1 c0 c1 HE9 N9 hb10 M10
    go_wp2_with fail
    refine HM10.out.mono ?_
    rintro e w11 ⟨rfl, ho11, hg11⟩
    have M11 := N10.out.mark (l1 := []) (l2 := [(w4.heap.size, .slice (some ⟨g4, 0, none⟩) es.length es.length, marksI 1 es.length), (w3.heap.size, .slice aW L.length cW, L)]) hg11 (marksI_length 1 _) ho11
    have hr11 := M11.row (w5.heap.size, .slice aG L.length cG, marksI 1 L.length) (by simp)
    rw [marksI_length] at hr11
    obtain ⟨g0, g1⟩ := M11.cells (e := (w5.heap.size, .slice aG L.length cG, marksI 1 L.length)) (by simp)
    have HH11 : Hid (type_of% (HH.out _ L.length _ hLl hr11)) := HH.out _ L.length _ hLl hr11
    have N11 : Hid (type_of% M11) := M11
    obtain ⟨qg, hqg⟩ : ∃ qg : Int, qg = ((1 + L.length * 3 : Nat) : Int) := ⟨_, rfl⟩
    have hqg0 : ¬ qg < 0 := by omega
    have hqq : (qg == qg) = true := beq_self_eq_true _
    rw [← hqg] at HH11 ⊢
    have HQG : Hid (type_of% hqg) := hqg
    clear hqg g0' g1' HM10 N10 ho11 hg11 M11 hr11
    go_wp2_with fail
    refine HH11.out.mono ?_
    rintro e w12 ⟨rfl, hb12⟩
    have M12 := N11.out.below hb12
    obtain ⟨a0, a1⟩ := M12.argCells
    have HT12 : Hid (type_of% (HT.out _ M12.bel)) := HT.out _ M12.bel
    have N12 : Hid (type_of% M12) := M12
    clear g0 g1 HH11 N11 hb12 M12
    go_wp2_with fail
    refine HT12.out.mono ?_
    rintro e w13 ⟨g13, rfl, ho13, hb13⟩
    have M13 := N12.out.below hb13
    have HI13 : Hid (type_of% (HI.out _ _ (itRow ho13) M13.bel)) := HI.out _ _ (itRow ho13) M13.bel
    have N13 : Hid (type_of% M13) := M13
    clear a0 a1 HT12 N12 hb13 ho13 M13
    go_wp2_with fail
    refine HI13.out.mono ?_
    rintro e w14 ⟨aH, cH, rfl, ho14, hb14⟩
    have M14 := N13.out.add hb14 ho14
    obtain ⟨h0, h1⟩ := M14.cells (e := (w14.heap.size, .slice aH L.length cH, L)) (by simp)
    obtain ⟨c0, c1⟩ := M14.cells (e := (w3.heap.size, .slice aW L.length cW, L)) (by simp)
    have HE14 : Hid (type_of% (HE.out _ _ _ _ hLl (M14.items (e := (w14.heap.size, .slice aH L.length cH, L)) (by simp)) (M14.items (e := (w3.heap.size, .slice aW L.length cW, L)) (by simp)))) := HE.out _ _ _ _ hLl (M14.items (e := (w14.heap.size, .slice aH L.length cH, L)) (by simp)) (M14.items (e := (w3.heap.size, .slice aW L.length cW, L)) (by simp))
    have N14 : Hid (type_of% M14) := M14
    clear HI13 N13 hb14 ho14 M14
    go_wp2_with fail
    refine HE14.out.mono ?_
    rintro e w15 ⟨rfl, hb15⟩
    have M15 := N14.out.below hb15
    have hr15 := M15.row (w5.heap.size, .slice aG L.length cG, marksI 1 L.length) (by simp)
    rw [marksI_length] at hr15
    obtain ⟨g0, g1⟩ := M15.cells (e := (w5.heap.size, .slice aG L.length cG, marksI 1 L.length)) (by simp)
    have HH15 : Hid (type_of% (HH.out _ L.length _ hLl hr15)) := HH.out _ L.length _ hLl hr15
    rw [← HQG.out] at HH15
    have N15 : Hid (type_of% M15) := M15
    clear h0 h1 c0 c1 HE14 N14 hb15 M15 hr15
    go_wp2_with fail
    refine HH15.out.mono ?_
    rintro e w16 ⟨rfl, hb16⟩
    have hfin := (N15.out.below hb16).bel
    clear g0 g1 HH15 N15 hb16
    go_wp2_with fail
    go_ret
    exact ⟨rfl, hfin⟩
  · have hz1 : leftI (itsBulk es) 1048576 = -1 := if_neg (by omega)
    rw [hz1] at HZ
    clear h hbk hz1 hc
    go_enter Tryd.func5, Tryd.ntmps5
    go_wp2_with fail
    refine (HZ.out _ hB1).mono ?_
    rintro e w1 ⟨rfl, hb1⟩
    go_wp2_with fail
    go_ret
    exact ⟨rfl, hB1.trans (hb1.mono hB1.size)⟩

end Go.Proofs.YtoebfpdalkpkdaaDoor

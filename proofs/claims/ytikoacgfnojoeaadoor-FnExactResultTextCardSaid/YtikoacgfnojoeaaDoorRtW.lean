/-
  The walk of the law FnExactResultText.
-/
import Derived.Test.YtikoacgfnojoeaaDoorRtS
import Derived.Test.YtikoacgfnojoeaaDoorRtI
import Derived.Deep.RegionWith
namespace Go.Proofs.YtikoacgfnojoeaaDoor
open Go.RowKit

set_option maxHeartbeats 3200000 in
set_option maxRecDepth 100000 in
open Classical in
theorem walkResultText (n : Nat) (rn : ByteArray) (vD : Value) (ds : List Dg) (nm : ByteArray) (bad : Bool) (vT vX : Value) (ts xs : List (ByteArray × Ty)) (w : World) (hD : DiAt w vD ds) (hT : EnvAt w n vT ts) (hX : EnvAt w n vX xs) (hrn : rn.size ≤ maxLen) (hld : ds.length ≤ maxLen) (hds : ∀ e ∈ ds, (-9223372036854775808 ≤ e.1 ∧ e.1 ≤ 9223372036854775807) ∧ e.2.size ≤ maxLen) (hns : nm.size ≤ maxLen) (hlT : ts.length ≤ maxLen) (hlX : xs.length ≤ maxLen) (htab : Lib.TabIs Tryd.prog w "internal/strconv.uint64pow10" .u64 Lib.pow10Tab) :
    Calls Tryd.prog 3 #[.agg #[.string rn, vD, .string nm, .bool bad, vT, vX]] w fun e w' => e = .returned (.bool true) ∧ Below w.heap.size w w' := by
  obtain ⟨aD, cD, rfl, _⟩ := diOpen hD
  obtain ⟨aT, cT, rfl, _⟩ := envOpen hT
  obtain ⟨aX, cX, rfl, _⟩ := envOpen hX
  have hB1 : Below w.heap.size w (w.alloc (.cells #[.string rn, .slice aD ds.length cD, .string nm, .bool bad, .slice aT ts.length cT, .slice aX xs.length cX] 27)) := (Below.refl _ _).alloc (Nat.le_refl _) _
  have HZ : Hid (type_of% (lawsSzRes n rn _ ds nm bad _ _ ts xs _ (hD.below hB1) (hT.below hB1) (hX.below hB1) hrn hld (fun e he => (hds e he).2) hns hlT hlX)) := lawsSzRes n rn _ ds nm bad _ _ ts xs _ (hD.below hB1) (hT.below hB1) (hX.below hB1) hrn hld (fun e he => (hds e he).2) hns hlT hlX
  by_cases hbk : resBulk n rn ds nm ts xs ≤ 1048576
  · have hz1 : leftOf (resBulk n rn ds nm ts xs) 1048576 = 1048576 - (resBulk n rn ds nm ts xs : Nat) := if_pos (by omega)
    rw [hz1] at HZ
    have hb2 : rn.size + dgsBulk ds + (nm.size + envBulk n ts + envBulk n xs) ≤ 1048576 := hbk
    have hbl : ds.length ≤ 1048576 := by have : ds.length ≤ dgsBulk ds := by { unfold dgsBulk; omega }; omega
    have hln : ∀ e ∈ ds, -9223372036854775808 ≤ e.1 ∧ e.1 ≤ 9223372036854775807 := fun e he => (hds e he).1
    have HT : Hid (∀ wx : World, Below w.heap.size w wx → Calls Tryd.prog 6 #[.agg #[.string rn, .slice aD ds.length cD, .string nm, .bool bad, .slice aT ts.length cT, .slice aX xs.length cX]] wx fun e w' => ∃ gD gT gX loT hiT loX hiX, e = .returned (.agg #[.string rn, .slice (some ⟨gD, 0, none⟩) ds.length ds.length, .string nm, .bool bad, .slice (some ⟨gT, 0, none⟩) ts.length ts.length, .slice (some ⟨gX, 0, none⟩) xs.length xs.length]) ∧ w'.ownsRow wx.heap.size 43 2 (.slice (some ⟨gD, 0, none⟩) ds.length ds.length) ds.length (dgV ds) ∧ NewEnv loT hiT w' n (.slice (some ⟨gT, 0, none⟩) ts.length ts.length) ts ∧ NewEnv loX hiX w' n (.slice (some ⟨gX, 0, none⟩) xs.length xs.length) xs ∧ wx.heap.size ≤ loT ∧ wx.heap.size ≤ loX ∧ Below wx.heap.size wx w') := fun wx hx => lawsToRes n rn _ ds nm bad _ _ ts xs wx (hD.below hx) (hT.below hx) (hX.below hx) hbl (by omega) (by omega)
    have HS : Hid (∀ (vd x2 x3 x4 x5 : Value) (wx : World), DiAt wx vd ds → Calls Tryd.prog 5 #[.agg #[.string rn, vd, x2, x3, x4, x5]] wx fun e w' => e = .returned (.string (rtText rn ds)) ∧ Below wx.heap.size wx w') := fun vd x2 x3 x4 x5 wx h1 => specResultText rn vd x2 x3 x4 x5 ds wx h1 (by omega) (by omega) hln
    have HI : Hid (∀ (vd x2 x3 x4 x5 : Value) (wx : World), DiAt wx vd ds → Below w.heap.size w wx → Calls Tryd.prog 7 #[.agg #[.string rn, vd, x2, x3, x4, x5]] wx fun e w' => e = .returned (.string (rtText rn ds)) ∧ Below wx.heap.size wx w') := fun vd x2 x3 x4 x5 wx h1 hx => implResultText rn vd x2 x3 x4 x5 ds wx h1 (by omega) (by omega) hln (Lib.tabBelow_of_tabIs htab wx hx)
    have HE : Hid (∀ (ud vd u v u2 v2 : Value) (wx : World), DiAt wx ud ds → DiAt wx vd ds → EnvAt wx n u ts → EnvAt wx n v xs → EnvAt wx n u2 ts → EnvAt wx n v2 xs → Calls Tryd.prog 8 #[.agg #[.string rn, ud, .string nm, .bool bad, u, v], .agg #[.string rn, vd, .string nm, .bool bad, u2, v2]] wx fun e w' => e = .returned (.bool true) ∧ Below wx.heap.size wx w') := fun ud vd u v u2 v2 wx g1 g2 h1 h2 h3 h4 => lawsEqRes n rn ud vd ds nm bad u v u2 v2 ts xs wx g1 g2 h1 h2 h3 h4 (by omega) (by omega) (by omega)
    clear hD hT hX hz1 htab hb2 hds hln hbl
    generalize rtText rn ds = r at *
    generalize hB : resBulk n rn ds nm ts xs = B at *
    clear hB
    have hneg : ¬ (1048576 - (B : Int) < 0) := by omega
    go_enter Tryd.func3, Tryd.ntmps3
    go_wp2_with fail
    refine HZ.out.mono ?_
    rintro e w1 ⟨rfl, hb1⟩
    have D1 : Below (w.heap.size + 1) (w.alloc (.cells #[.string rn, .slice aD ds.length cD, .string nm, .bool bad, .slice aT ts.length cT, .slice aX xs.length cX] 27)) w1 := hb1.mono (by simp)
    have HA : Hid (∀ wx : World, Below (w.heap.size + 1) (w.alloc (.cells #[.string rn, .slice aD ds.length cD, .string nm, .bool bad, .slice aT ts.length cT, .slice aX xs.length cX] 27)) wx → SixR wx w.heap.size (.string rn) (.slice aD ds.length cD) (.string nm) (.bool bad) (.slice aT ts.length cT) (.slice aX xs.length cX) ∧ Below w.heap.size w wx) := fun wx hx => ⟨sixR_new rfl hx, hB1.trans (hx.mono (by omega))⟩
    have hz1 : w.heap.size + 1 ≤ w1.heap.size := by have := hb1.size; simpa using this
    clear hb1 HZ
    obtain ⟨⟨⟨a0, a1, a2, a3, a4, a5⟩, _⟩, hw1⟩ := HA.out w1 D1
    go_wp2_with fail
    refine (HT.out _ hw1).mono ?_
    rintro e w2 ⟨gD2, gT2, gX2, loT2, hiT2, loX2, hiX2, rfl, hoD2, hnT2, hnX2, _, _, hb2⟩
    have D2 := D1.trans (hb2.mono hz1)
    have hz2 : w.heap.size + 1 ≤ w2.heap.size := Nat.le_trans hz1 hb2.size
    have HS2 : Hid (type_of% (HS.out _ (.string nm) (.bool bad) (.slice (some ⟨gT2, 0, none⟩) ts.length ts.length) (.slice (some ⟨gX2, 0, none⟩) xs.length xs.length) _ (dgRow hoD2))) := HS.out _ _ _ _ _ _ (dgRow hoD2)
    clear a0 a1 a2 a3 a4 a5 hw1 hoD2 hnT2 hnX2 D1 hz1 hb2 HS
    go_wp2_with fail
    refine HS2.out.mono ?_
    rintro e w3 ⟨rfl, hb3⟩
    have D3 := D2.trans (hb3.mono hz2)
    have hz3 : w.heap.size + 1 ≤ w3.heap.size := Nat.le_trans hz2 hb3.size
    clear D2 hz2 hb3 HS2
    obtain ⟨⟨⟨a0, a1, a2, a3, a4, a5⟩, _⟩, hw3⟩ := HA.out w3 D3
    go_wp2_with fail
    refine (HT.out _ hw3).mono ?_
    rintro e w4 ⟨gD4, gT4, gX4, loT4, hiT4, loX4, hiX4, rfl, hoD4, hnT4, hnX4, _, _, hb4⟩
    have D4 := D3.trans (hb4.mono hz3)
    have hz4 : w.heap.size + 1 ≤ w4.heap.size := Nat.le_trans hz3 hb4.size
    have bJ : Below w4.heap.size w4 (w4.alloc (.cells #[.string rn, .slice (some ⟨gD4, 0, none⟩) ds.length ds.length, .string nm, .bool bad, .slice (some ⟨gT4, 0, none⟩) ts.length ts.length, .slice (some ⟨gX4, 0, none⟩) xs.length xs.length] 35)) := (Below.refl _ _).alloc (Nat.le_refl _) _
    have hmD := (dgRow hoD4).below bJ
    have hmT := hnT4.step (Above.of_below bJ)
    have hmX := hnX4.step (Above.of_below bJ)
    clear a0 a1 a2 a3 a4 a5 hw3 D3 hz3 hb4 hoD4 hnT4 hnX4
    have D5 : Below (w.heap.size + 1) (w.alloc (.cells #[.string rn, .slice aD ds.length cD, .string nm, .bool bad, .slice aT ts.length cT, .slice aX xs.length cX] 27)) (w4.alloc (.cells #[.string rn, .slice (some ⟨gD4, 0, none⟩) ds.length ds.length, .string nm, .bool bad, .slice (some ⟨gT4, 0, none⟩) ts.length ts.length, .slice (some ⟨gX4, 0, none⟩) xs.length xs.length] 35)) := D4.alloc hz4 _
    have HJ : Hid (∀ wx : World, Below (w4.heap.size + 1) (w4.alloc (.cells #[.string rn, .slice (some ⟨gD4, 0, none⟩) ds.length ds.length, .string nm, .bool bad, .slice (some ⟨gT4, 0, none⟩) ts.length ts.length, .slice (some ⟨gX4, 0, none⟩) xs.length xs.length] 35)) wx → SixR wx w4.heap.size (.string rn) (.slice (some ⟨gD4, 0, none⟩) ds.length ds.length) (.string nm) (.bool bad) (.slice (some ⟨gT4, 0, none⟩) ts.length ts.length) (.slice (some ⟨gX4, 0, none⟩) xs.length xs.length) ∧ DiAt wx (.slice (some ⟨gD4, 0, none⟩) ds.length ds.length) ds ∧ EnvAt wx n (.slice (some ⟨gT4, 0, none⟩) ts.length ts.length) ts ∧ EnvAt wx n (.slice (some ⟨gX4, 0, none⟩) xs.length xs.length) xs) := fun wx hx => ⟨sixR_new rfl hx, hmD.below (hx.mono (by simp)), (hmT.at).below (hx.mono (by simp)), (hmX.at).below (hx.mono (by simp))⟩
    have HC := HI.out _ (.string nm) (.bool bad) (.slice (some ⟨gT4, 0, none⟩) ts.length ts.length) (.slice (some ⟨gX4, 0, none⟩) xs.length xs.length) _ hmD (hB1.trans (D5.mono (by omega)))
    have HC2 : Hid (type_of% HC) := HC
    clear hmD hmT hmX D4 HI HC bJ
    go_wp2_with fail
    refine HC2.out.mono ?_
    rintro e w6 ⟨rfl, hb6⟩
    have E6 : Below (w4.heap.size + 1) (w4.alloc (.cells #[.string rn, .slice (some ⟨gD4, 0, none⟩) ds.length ds.length, .string nm, .bool bad, .slice (some ⟨gT4, 0, none⟩) ts.length ts.length, .slice (some ⟨gX4, 0, none⟩) xs.length xs.length] 35)) w6 := hb6.mono (by simp)
    have D6 : Below (w.heap.size + 1) (w.alloc (.cells #[.string rn, .slice aD ds.length cD, .string nm, .bool bad, .slice aT ts.length cT, .slice aX xs.length cX] 27)) w6 := D5.trans (hb6.mono (by simp; omega))
    have hz6 : w4.heap.size + 1 ≤ w6.heap.size := by have := hb6.size; simpa using this
    clear hb6 HC2 D5
    obtain ⟨⟨⟨a0, a1, a2, a3, a4, a5⟩, _⟩, hw6⟩ := HA.out w6 D6
    obtain ⟨⟨⟨b0, b1, b2, b3, b4, b5⟩, _⟩, hqD6, hqT6, hqX6⟩ := HJ.out w6 E6
    go_wp2_with fail
    go_region_with (first | (go_at_call 6; refine (HT.out _ hw6.drew).mono ?_; rintro e w7 ⟨gD7, gT7, gX7, loT7, hiT7, loX7, hiX7, rfl, hoD7, hnT7, hnX7, _, _, hb7⟩; have E7 := E6.drew.trans (hb7.mono hz6); have hw7 := hw6.drew.trans (hb7.mono hw6.size); obtain ⟨⟨⟨c0, c1, c2, c3, c4, c5⟩, _⟩, hqD7, hqT7, hqX7⟩ := HJ.out w7 E7) | (go_at_call 8; refine (HE.out _ _ _ _ _ _ _ hqD7 (dgRow hoD7) hqT7 hqX7 hnT7.at hnX7.at).mono ?_; rintro e w8 ⟨rfl, hb8⟩))
    all_goals
      go_wp2_with fail
      go_ret
      exact ⟨rfl, hw7.trans (hb8.mono hw7.size)⟩
  · have hz1 : leftOf (resBulk n rn ds nm ts xs) 1048576 = -1 := if_neg (by omega)
    rw [hz1] at HZ
    clear hD hT hX hbk hz1 htab hds
    go_enter Tryd.func3, Tryd.ntmps3
    go_wp2_with fail
    refine HZ.out.mono ?_
    rintro e w1 ⟨rfl, hb1⟩
    go_wp2_with fail
    go_ret
    exact ⟨rfl, hB1.trans (hb1.mono (by simp))⟩

end Go.Proofs.YtikoacgfnojoeaaDoor

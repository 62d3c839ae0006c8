/-
  The walk of the law FnExactSummaryOk.
-/
import Derived.Test.YtmbjknholcmpmaaGreatDoorSuR
import Derived.Test.YtmbjknholcmpmaaGreatDoorSuQ
import Derived.Deep.RegionWith
namespace Go.Proofs.YtmbjknholcmpmaaGreatDoor
open Go.RowKit

def FourS (w : World) (b : Nat) (x0 x1 x2 x3 : Value) : Prop := w.cell? ⟨b, 0, none⟩ = some x0 ∧ w.cell? ⟨b, 1, none⟩ = some x1 ∧ w.cell? ⟨b, 2, none⟩ = some x2 ∧ w.cell? ⟨b, 3, none⟩ = some x3
theorem fourS_new {w wx : World} {b : Nat} {x0 x1 x2 x3 : Value} {t : TypeId} (h : b = w.heap.size) (hb : Below (b + 1) (w.alloc (.cells #[x0, x1, x2, x3] t)) wx) : FourS wx b x0 x1 x2 x3 := by
  subst h
  exact (block4R ((hb.block _ (by omega)).trans (MapKept.heap_alloc w _).1)).1

set_option maxHeartbeats 3200000 in
set_option maxRecDepth 100000 in
open Classical in
theorem walkSummaryOk (n : Nat) (nm : ByteArray) (bad : Bool) (vT vX : Value) (ts xs : List (ByteArray × Ty)) (w : World) (hT : EnvAt w n vT ts) (hX : EnvAt w n vX xs) (hns : nm.size ≤ maxLen) (hlT : ts.length ≤ maxLen) (hlX : xs.length ≤ maxLen) (hcls : ClsIs w ∧ Lib.TabIs Tryz.prog w "internal/strconv.uint64pow10" .u64 Lib.pow10Tab) :
    Calls Tryz.prog 3 #[.agg #[.string nm, .bool bad, vT, vX]] w fun e w' => e = .returned (.bool true) ∧ Below w.heap.size w w' := by
  obtain ⟨aT, cT, rfl, _⟩ := envOpen hT
  obtain ⟨aX, cX, rfl, _⟩ := envOpen hX
  have hB1 : Below w.heap.size w (w.alloc (.cells #[.string nm, .bool bad, .slice aT ts.length cT, .slice aX xs.length cX] 24)) := (Below.refl _ _).alloc (Nat.le_refl _) _
  have HZ : Hid (type_of% (lawsSzSum n nm bad _ _ ts xs _ (hT.below hB1) (hX.below hB1) hns hlT hlX)) := lawsSzSum n nm bad _ _ ts xs _ (hT.below hB1) (hX.below hB1) hns hlT hlX
  by_cases hbk : sumBulk n nm ts xs ≤ 1048576
  · have hz1 : leftOf (sumBulk n nm ts xs) 1048576 = 1048576 - (sumBulk n nm ts xs : Nat) := if_pos (by omega)
    rw [hz1] at HZ
    have hb2 : nm.size + envBulk n ts + envBulk n xs ≤ 1048576 := hbk
    have hbT := envBulk_ends hT.ends
    have hfX := fnOf_bulk n xs
    have HT : Hid (∀ wx : World, Below w.heap.size w wx → Calls Tryz.prog 7 #[.agg #[.string nm, .bool bad, .slice aT ts.length cT, .slice aX xs.length cX]] wx fun e w' => ∃ gT gX loT hiT loX hiX, e = .returned (.agg #[.string nm, .bool bad, .slice (some ⟨gT, 0, none⟩) ts.length ts.length, .slice (some ⟨gX, 0, none⟩) xs.length xs.length]) ∧ NewEnv loT hiT w' n (.slice (some ⟨gT, 0, none⟩) ts.length ts.length) ts ∧ NewEnv loX hiX w' n (.slice (some ⟨gX, 0, none⟩) xs.length xs.length) xs ∧ wx.heap.size ≤ loT ∧ wx.heap.size ≤ loX ∧ Below wx.heap.size wx w') := fun wx hx => lawsToSum n nm bad _ _ ts xs wx (hT.below hx) (hX.below hx) (by omega) (by omega)
    have HS : Hid (∀ (u v : Value) (wx : World), EnvAt wx n u ts → EnvAt wx n v xs → Calls Tryz.prog 6 #[.agg #[.string nm, .bool bad, u, v]] wx fun e w' => e = .returned (.bool (sumRight n nm bad ts xs)) ∧ Below wx.heap.size wx w') := fun u v wx h1 h2 => specSummaryOk n nm bad u v ts xs wx h1 h2 (by omega) (by omega)
    have HI : Hid (∀ (u v : Value) (loT hiT loX hiX : Nat) (wx : World), EnvIn wx n loT hiT u ts → hiT ≤ wx.heap.size → EnvIn wx n loX hiX v xs → hiX ≤ wx.heap.size → Below w.heap.size w wx → Calls Tryz.prog 8 #[.agg #[.string nm, .bool bad, u, v]] wx fun e w' => e = .returned (.bool (sumRight n nm bad ts xs)) ∧ Below wx.heap.size wx w') := fun u v loT hiT loX hiX wx h1 h2 h3 h4 hx => implSummaryOk n loT hiT loX hiX nm bad u v ts xs wx h1 h2 h3 h4 (by omega) (by omega) (by omega) (by omega) (hcls.1.below hx hcls.1.lt) (Lib.tabBelow_of_tabIs hcls.2 wx hx)
    have HE : Hid (∀ (u v u2 v2 : Value) (wx : World), EnvAt wx n u ts → EnvAt wx n v xs → EnvAt wx n u2 ts → EnvAt wx n v2 xs → Calls Tryz.prog 9 #[.agg #[.string nm, .bool bad, u, v], .agg #[.string nm, .bool bad, u2, v2]] wx fun e w' => e = .returned (.bool true) ∧ Below wx.heap.size wx w') := fun u v u2 v2 wx h1 h2 h3 h4 => lawsEqSum n nm bad u v u2 v2 ts xs wx h1 h2 h3 h4 (by omega) (by omega)
    clear hT hX hz1 hcls hbT hfX hb2
    generalize sumRight n nm bad ts xs = r at *
    have hr : (r != r) = false := by cases r <;> rfl
    generalize hB : sumBulk n nm ts xs = B at *
    clear hB
    have hneg : ¬ (1048576 - (B : Int) < 0) := by omega
    go_enter Tryz.func3, Tryz.ntmps3
    go_wp2_with fail
    refine HZ.out.mono ?_
    rintro e w1 ⟨rfl, hb1⟩
    have D1 : Below (w.heap.size + 1) (w.alloc (.cells #[.string nm, .bool bad, .slice aT ts.length cT, .slice aX xs.length cX] 24)) w1 := hb1.mono (by simp)
    have HA : Hid (∀ wx : World, Below (w.heap.size + 1) (w.alloc (.cells #[.string nm, .bool bad, .slice aT ts.length cT, .slice aX xs.length cX] 24)) wx → FourS wx w.heap.size (.string nm) (.bool bad) (.slice aT ts.length cT) (.slice aX xs.length cX) ∧ Below w.heap.size w wx) := fun wx hx => ⟨fourS_new rfl hx, hB1.trans (hx.mono (by omega))⟩
    have hz1 : w.heap.size + 1 ≤ w1.heap.size := by have := hb1.size; simpa using this
    clear hb1 HZ
    obtain ⟨⟨a0, a1, a2, a3⟩, hw1⟩ := HA.out w1 D1
    go_wp2_with fail
    refine (HT.out _ hw1).mono ?_
    rintro e w2 ⟨gT2, gX2, loT2, hiT2, loX2, hiX2, rfl, hnT2, hnX2, _, _, hb2⟩
    have D2 := D1.trans (hb2.mono hz1)
    have hz2 : w.heap.size + 1 ≤ w2.heap.size := Nat.le_trans hz1 hb2.size
    have HS2 : Hid (type_of% (HS.out _ _ _ hnT2.at hnX2.at)) := HS.out _ _ _ hnT2.at hnX2.at
    clear a0 a1 a2 a3 hw1 hnT2 hnX2 D1 hz1 hb2 HS
    go_wp2_with fail
    refine HS2.out.mono ?_
    rintro e w3 ⟨rfl, hb3⟩
    have D3 := D2.trans (hb3.mono hz2)
    have hz3 : w.heap.size + 1 ≤ w3.heap.size := Nat.le_trans hz2 hb3.size
    clear D2 hz2 hb3 HS2
    obtain ⟨⟨a0, a1, a2, a3⟩, hw3⟩ := HA.out w3 D3
    go_wp2_with fail
    refine (HT.out _ hw3).mono ?_
    rintro e w4 ⟨gT4, gX4, loT4, hiT4, loX4, hiX4, rfl, hnT4, hnX4, _, _, hb4⟩
    have D4 := D3.trans (hb4.mono hz3)
    have hz4 : w.heap.size + 1 ≤ w4.heap.size := Nat.le_trans hz3 hb4.size
    have bJ : Below w4.heap.size w4 (w4.alloc (.cells #[.string nm, .bool bad, .slice (some ⟨gT4, 0, none⟩) ts.length ts.length, .slice (some ⟨gX4, 0, none⟩) xs.length xs.length] 29)) := (Below.refl _ _).alloc (Nat.le_refl _) _
    have hmT := hnT4.step (Above.of_below bJ)
    have hmX := hnX4.step (Above.of_below bJ)
    clear a0 a1 a2 a3 hw3 D3 hz3 hb4 hnT4 hnX4
    have D5 : Below (w.heap.size + 1) (w.alloc (.cells #[.string nm, .bool bad, .slice aT ts.length cT, .slice aX xs.length cX] 24)) (w4.alloc (.cells #[.string nm, .bool bad, .slice (some ⟨gT4, 0, none⟩) ts.length ts.length, .slice (some ⟨gX4, 0, none⟩) xs.length xs.length] 29)) := D4.alloc hz4 _
    have HJ : Hid (∀ wx : World, Below (w4.heap.size + 1) (w4.alloc (.cells #[.string nm, .bool bad, .slice (some ⟨gT4, 0, none⟩) ts.length ts.length, .slice (some ⟨gX4, 0, none⟩) xs.length xs.length] 29)) wx → FourS wx w4.heap.size (.string nm) (.bool bad) (.slice (some ⟨gT4, 0, none⟩) ts.length ts.length) (.slice (some ⟨gX4, 0, none⟩) xs.length xs.length) ∧ EnvAt wx n (.slice (some ⟨gT4, 0, none⟩) ts.length ts.length) ts ∧ EnvAt wx n (.slice (some ⟨gX4, 0, none⟩) xs.length xs.length) xs) := fun wx hx => ⟨fourS_new rfl hx, (hmT.at).below (hx.mono (by simp)), (hmX.at).below (hx.mono (by simp))⟩
    have HC := HI.out _ _ _ _ _ _ _ (hmT.2 _ (Above.refl _ _)) hmT.1 (hmX.2 _ (Above.refl _ _)) hmX.1 (hB1.trans (D5.mono (by omega)))
    have HC2 : Hid (type_of% HC) := HC
    clear hmT hmX D4 HI HC bJ
    go_wp2_with fail
    refine HC2.out.mono ?_
    rintro e w6 ⟨rfl, hb6⟩
    have E6 : Below (w4.heap.size + 1) (w4.alloc (.cells #[.string nm, .bool bad, .slice (some ⟨gT4, 0, none⟩) ts.length ts.length, .slice (some ⟨gX4, 0, none⟩) xs.length xs.length] 29)) w6 := hb6.mono (by simp)
    have D6 : Below (w.heap.size + 1) (w.alloc (.cells #[.string nm, .bool bad, .slice aT ts.length cT, .slice aX xs.length cX] 24)) w6 := D5.trans (hb6.mono (by simp; omega))
    have hz6 : w4.heap.size + 1 ≤ w6.heap.size := by have := hb6.size; simpa using this
    clear hb6 HC2 D5
    obtain ⟨⟨a0, a1, a2, a3⟩, hw6⟩ := HA.out w6 D6
    obtain ⟨⟨b0, b1, b2, b3⟩, hqT6, hqX6⟩ := HJ.out w6 E6
    go_wp2_with fail
    go_region_with (first | (go_at_call 7; refine (HT.out _ hw6.drew).mono ?_; rintro e w7 ⟨gT7, gX7, loT7, hiT7, loX7, hiX7, rfl, hnT7, hnX7, _, _, hb7⟩; have E7 := E6.drew.trans (hb7.mono hz6); have hw7 := hw6.drew.trans (hb7.mono hw6.size); obtain ⟨⟨c0, c1, c2, c3⟩, hqT7, hqX7⟩ := HJ.out w7 E7) | (go_at_call 9; refine (HE.out _ _ _ _ _ hqT7 hqX7 hnT7.at hnX7.at).mono ?_; rintro e w8 ⟨rfl, hb8⟩))
    all_goals
      go_wp2_with fail
      go_ret
      exact ⟨rfl, hw7.trans (hb8.mono hw7.size)⟩
  · have hz1 : leftOf (sumBulk n nm ts xs) 1048576 = -1 := if_neg (by omega)
    rw [hz1] at HZ
    clear hT hX hbk hz1 hcls
    go_enter Tryz.func3, Tryz.ntmps3
    go_wp2_with fail
    refine HZ.out.mono ?_
    rintro e w1 ⟨rfl, hb1⟩
    go_wp2_with fail
    go_ret
    exact ⟨rfl, hB1.trans (hb1.mono (by simp))⟩

end Go.Proofs.YtmbjknholcmpmaaGreatDoor

/-
 Four tables that a row lists: what the second of them holds.
-/
import Derived.Test.YtbojmbeopnlmiaaGreatDoorPsL
import Derived.Test.YtbojmbeopnlmiaaGreatDoorDigestW
namespace Go.Proofs.YtbojmbeopnlmiaaGreatDoor
open Go.RowKit Go.ChangeShapes Go.WideShapes Go.ChangeAt
theorem secondOf4 {P : Program} {W : World} {n1 n2 n3 n4 : String} {d1 d3 d4 : DataW Unit} {k : IntKind} {zs : List Int} {g : Nat} {t e : TypeId} {n : Nat}
  (hg : P.globalNamed n2 = some g) (hty : (P.globals[g]?).map (·.type) = some t) (ht : P.underlying t = some (.array n e)) (he : P.underlying e = some (.int k)) (hce : P.cellsOf e = 1) (hct : P.cellsOf t = n)
  (h : laidMet P [(n1, d1), (n2, Lib.tabData k zs), (n3, d3), (n4, d4)] W) : Lib.TabIs P W n2 k zs := by
 obtain ⟨ps, ⟨_, _, _, _, _, _, _, _, _, _, ⟨g', t', cs, fuel, p, q, hg', ht', hvar, hd, _, _⟩, _⟩, _⟩ := h
 obtain rfl := Option.some.inj (hg.symm.trans hg')
 obtain rfl := Option.some.inj (hty.symm.trans ht')
 unfold Lib.TabIs
 rw [hvar, ← Lib.cells_of_tab ht he hce hct hd]
theorem bitDatum4 : (Rows.laid_math_bits_deBruijn64tab : DataW Unit) = Lib.tabData .u8 bare64x := by kernel_rfl
theorem gBit4 : Tryz.prog.globalNamed "math/bits.deBruijn64tab" = some 4 := by kernel_rfl
theorem gBitType4 : (Tryz.prog.globals[4]?).map (·.type) = some 228 := by kernel_rfl
theorem bits4 {W : World} (h : laidMet Tryz.prog [("math/bits.deBruijn32tab", Rows.laid_math_bits_deBruijn32tab), ("math/bits.deBruijn64tab", Rows.laid_math_bits_deBruijn64tab), ("internal/strconv.uint64pow10", Rows.laid_internal_strconv_uint64pow10), ("loop.example/g00276/impl.classes", Rows.laid_loop_example_g00276_impl_classes)] W) : W.cell? ⟨4, 15, none⟩ = some (.int .u8 4) := by
 rw [bitDatum4] at h
 exact (secondOf4 gBit4 gBitType4 Tryz.underlying228 Tryz.underlying5 (by kernel_rfl) (by kernel_rfl) h).cell gBit4 15 (by decide)
end Go.Proofs.YtbojmbeopnlmiaaGreatDoor
namespace Go.Proofs.YtbojmbeopnlmiaaGreatDoor
open Go.RowKit
theorem sumA_size (b : Bool) (n : Nat) (nm : ByteArray) (bad : Bool) (ts xs : List (ByteArray × Ty)) (hns : nm.size ≤ 1048576) (hb2 : envBulk n ts + envBulk n xs ≤ 1048576) : (sumA b n nm bad ts xs).size ≤ 140737488355328 := by
 cases b with
 | false => exact Nat.zero_le _
 | true =>
  have h1 := sumPut_size n nm bad ts xs
  show (mkB (sumPut n nm bad ts xs)).size ≤ _
  rw [mkB_size]
  omega
set_option maxHeartbeats 800000 in
open Classical in
theorem specSummaryKey (n : Nat) (nm : ByteArray) (bad : Bool) (vT vX : Value) (ts xs : List (ByteArray × Ty)) (w : World) (hT : EnvAt w n vT ts) (hX : EnvAt w n vX xs) (hns : nm.size ≤ 1048576) (hbk : envBulk n ts + envBulk n xs ≤ 1048576) :
  Calls Tryz.prog 16 #[.agg #[.string nm, .bool bad, vT, vX]] w fun e w' => e = .returned (.string (keyB (sumA (sumRight n nm bad ts xs) n nm bad ts xs))) ∧ Below w.heap.size w w' := by
 have HP : Hid (∀ wx : World, Below w.heap.size w wx → Calls Tryz.prog 12 #[.agg #[.string nm, .bool bad, vT, vX]] wx fun e w' => e = .returned (.string (sumA (sumRight n nm bad ts xs) n nm bad ts xs)) ∧ Below wx.heap.size wx w') := fun wx hx => specPutSummary n nm bad vT vX ts xs wx (hT.below hx) (hX.below hx) hns hbk
 have hs := sumA_size (sumRight n nm bad ts xs) n nm bad ts xs hns hbk
 obtain ⟨aT, cT, rfl, _⟩ := envOpen hT
 obtain ⟨aX, cX, rfl, _⟩ := envOpen hX
 clear hT hX hbk
 generalize sumA (sumRight n nm bad ts xs) n nm bad ts xs = R at *
 have HK : Hid (∀ wx : World, Calls Tryz.prog 36 #[.string R] wx fun e w' => e = .returned (.string (keyB R)) ∧ wx = w') := fun wx => specKey R wx hs
 go_enter Tryz.func16, Tryz.ntmps16
 go_wp2_with fail
 refine (HP.out _ (by first | exact Below.refl _ _ | exact (Below.refl _ _).alloc (Nat.le_refl _) _)).mono ?_
 rintro e w2 ⟨rfl, hb2⟩
 go_wp2_with fail
 refine (HK.out _).mono ?_
 rintro e w3 ⟨rfl, rfl⟩
 go_wp2_with fail
 go_ret
 exact ⟨rfl, by first | exact hb2 | exact ((Below.refl _ _).alloc (Nat.le_refl _) _).trans (hb2.mono (by simp))⟩
set_option maxHeartbeats 800000 in
open Classical in
theorem implSummaryKey (n loT hiT loX hiX : Nat) (nm : ByteArray) (bad : Bool) (vT vX : Value) (ts xs : List (ByteArray × Ty)) (w : World) (hT : EnvIn w n loT hiT vT ts) (hhT : hiT ≤ w.heap.size) (hX : EnvIn w n loX hiX vX xs) (hhX : hiX ≤ w.heap.size) (hns : nm.size ≤ 1048576) (hb2 : envBulk n ts + envBulk n xs ≤ 1048576) (hbk : envBulk (n + 1) ts + Ty.bulk (n + 1) (fnOf xs) ≤ 1048576) (hc : ClsIs w) (hp : Lib.TabIs Tryz.prog w "internal/strconv.uint64pow10" .u64 Lib.pow10Tab) (hk : w.cell? ⟨4, 15, none⟩ = some (.int .u8 4)) :
  Calls Tryz.prog 17 #[.agg #[.string nm, .bool bad, vT, vX]] w fun e w' => e = .returned (.string (keyB (sumA (sumRight n nm bad ts xs) n nm bad ts xs))) ∧ Below w.heap.size w w' := by
 have HP : Hid (∀ wx : World, Below w.heap.size w wx → Calls Tryz.prog 14 #[.agg #[.string nm, .bool bad, vT, vX]] wx fun e w' => e = .returned (.string (sumA (sumRight n nm bad ts xs) n nm bad ts xs)) ∧ Below wx.heap.size wx w') := fun wx hx =>
  implPutSummary n loT hiT loX hiX nm bad vT vX ts xs wx (EnvIn.belowS hT hx) (Nat.le_trans hhT hx.size) (EnvIn.belowS hX hx) (Nat.le_trans hhX hx.size) hns hb2 hbk (hc.below hx hc.lt) (Lib.tabBelow_of_tabIs hp wx hx)
 have hs := sumA_size (sumRight n nm bad ts xs) n nm bad ts xs hns hb2
 have hlt : 4 < w.heap.size := World.block_lt_of_cell? w ⟨4, 15, none⟩ hk
 obtain ⟨aT, cT, rfl, _⟩ := hT.reads
 obtain ⟨aX, cX, rfl, _⟩ := hX.reads
 clear hT hX hbk hb2 hc hp
 generalize sumA (sumRight n nm bad ts xs) n nm bad ts xs = R at *
 have HK : Hid (∀ wx : World, Below w.heap.size w wx → Calls Tryz.prog 37 #[.string R] wx fun e w' => e = .returned (.string (keyB R)) ∧ Below wx.heap.size wx w') := fun wx hx => implKey R wx hs ((hx.cell (p := ⟨4, 15, none⟩) hlt).trans hk)
 clear hk hlt
 go_enter Tryz.func17, Tryz.ntmps17
 go_wp2_with fail
 refine (HP.out _ (by first | exact Below.refl _ _ | exact (Below.refl _ _).alloc (Nat.le_refl _) _)).mono ?_
 rintro e w2 ⟨rfl, hb2⟩
 have hw2 : Below w.heap.size w w2 := (by first | exact hb2 | exact ((Below.refl _ _).alloc (Nat.le_refl _) _).trans (hb2.mono (by simp)))
 clear hb2 HP
 go_wp2_with fail
 refine (HK.out _ hw2).mono ?_
 rintro e w3 ⟨rfl, hb3⟩
 have hw3 := hw2.trans (hb3.mono hw2.size)
 clear hw2 hb3 HK
 go_wp2_with fail
 go_ret
 exact ⟨rfl, hw3⟩
def FourK (w : World) (b : Nat) (x0 x1 x2 x3 : Value) : Prop := w.cell? ⟨b, 0, none⟩ = some x0 ∧ w.cell? ⟨b, 1, none⟩ = some x1 ∧ w.cell? ⟨b, 2, none⟩ = some x2 ∧ w.cell? ⟨b, 3, none⟩ = some x3
theorem fourK_new {w wx : World} {b : Nat} {x0 x1 x2 x3 : Value} {t : TypeId} (h : b = w.heap.size) (hb : Below (b + 1) (w.alloc (.cells #[x0, x1, x2, x3] t)) wx) : FourK wx b x0 x1 x2 x3 := by
 subst h
 exact (block4R ((hb.block _ (by omega)).trans (MapKept.heap_alloc w _).1)).1
set_option maxHeartbeats 3200000 in
set_option maxRecDepth 100000 in
open Classical in
theorem walkSummaryKey (n : Nat) (nm : ByteArray) (bad : Bool) (vT vX : Value) (ts xs : List (ByteArray × Ty)) (w : World) (hT : EnvAt w n vT ts) (hX : EnvAt w n vX xs) (hns : nm.size ≤ maxLen) (hlT : ts.length ≤ maxLen) (hlX : xs.length ≤ maxLen) (hcls : ClsIs w ∧ Lib.TabIs Tryz.prog w "internal/strconv.uint64pow10" .u64 Lib.pow10Tab) (hbit : w.cell? ⟨4, 15, none⟩ = some (.int .u8 4)) :
  Calls Tryz.prog 5 #[.agg #[.string nm, .bool bad, vT, vX]] w fun e w' => e = .returned (.bool true) ∧ Below w.heap.size w w' := by
 obtain ⟨aT, cT, rfl, _⟩ := envOpen hT
 obtain ⟨aX, cX, rfl, _⟩ := envOpen hX
 have hB1 : Below w.heap.size w (w.alloc (.cells #[.string nm, .bool bad, .slice aT ts.length cT, .slice aX xs.length cX] 36)) := (Below.refl _ _).alloc (Nat.le_refl _) _
 have HZ : Hid (type_of% (lawsSzSum n nm bad _ _ ts xs _ (hT.below hB1) (hX.below hB1) hns hlT hlX)) := lawsSzSum n nm bad _ _ ts xs _ (hT.below hB1) (hX.below hB1) hns hlT hlX
 by_cases hbk : sumBulk n nm ts xs ≤ 1048576
 ·have hz1 : leftOf (sumBulk n nm ts xs) 1048576 = 1048576 - (sumBulk n nm ts xs : Nat) := if_pos (by omega)
  rw [hz1] at HZ
  have hb2 : nm.size + envBulk n ts + envBulk n xs ≤ 1048576 := hbk
  have hbT := envBulk_ends hT.ends
  have hfX := fnOf_bulk n xs
  have HT : Hid (∀ wx : World, Below w.heap.size w wx → Calls Tryz.prog 13 #[.agg #[.string nm, .bool bad, .slice aT ts.length cT, .slice aX xs.length cX]] wx fun e w' => ∃ gT gX loT hiT loX hiX, e = .returned (.agg #[.string nm, .bool bad, .slice (some ⟨gT, 0, none⟩) ts.length ts.length, .slice (some ⟨gX, 0, none⟩) xs.length xs.length]) ∧ NewEnv loT hiT w' n (.slice (some ⟨gT, 0, none⟩) ts.length ts.length) ts ∧ NewEnv loX hiX w' n (.slice (some ⟨gX, 0, none⟩) xs.length xs.length) xs ∧ wx.heap.size ≤ loT ∧ wx.heap.size ≤ loX ∧ Below wx.heap.size wx w') := fun wx hx => lawsToSum n nm bad _ _ ts xs wx (hT.below hx) (hX.below hx) (by omega) (by omega)
  have HS : Hid (∀ (u v : Value) (wx : World), EnvAt wx n u ts → EnvAt wx n v xs → Calls Tryz.prog 16 #[.agg #[.string nm, .bool bad, u, v]] wx fun e w' => e = .returned (.string (keyB (sumA (sumRight n nm bad ts xs) n nm bad ts xs))) ∧ Below wx.heap.size wx w') := fun u v wx h1 h2 => specSummaryKey n nm bad u v ts xs wx h1 h2 (by omega) (by omega)
  have HI : Hid (∀ (u v : Value) (loT hiT loX hiX : Nat) (wx : World), EnvIn wx n loT hiT u ts → hiT ≤ wx.heap.size → EnvIn wx n loX hiX v xs → hiX ≤ wx.heap.size → Below w.heap.size w wx → Calls Tryz.prog 17 #[.agg #[.string nm, .bool bad, u, v]] wx fun e w' => e = .returned (.string (keyB (sumA (sumRight n nm bad ts xs) n nm bad ts xs))) ∧ Below wx.heap.size wx w') := fun u v loT hiT loX hiX wx h1 h2 h3 h4 hx => implSummaryKey n loT hiT loX hiX nm bad u v ts xs wx h1 h2 h3 h4 (by omega) (by omega) (by omega) (hcls.1.below hx hcls.1.lt) (Lib.tabBelow_of_tabIs hcls.2 wx hx) ((hx.cell (p := ⟨4, 15, none⟩) (World.block_lt_of_cell? w ⟨4, 15, none⟩ hbit)).trans hbit)
  have HE : Hid (∀ (u v u2 v2 : Value) (wx : World), EnvAt wx n u ts → EnvAt wx n v xs → EnvAt wx n u2 ts → EnvAt wx n v2 xs → Calls Tryz.prog 15 #[.agg #[.string nm, .bool bad, u, v], .agg #[.string nm, .bool bad, u2, v2]] wx fun e w' => e = .returned (.bool true) ∧ Below wx.heap.size wx w') := fun u v u2 v2 wx h1 h2 h3 h4 => lawsEqSum n nm bad u v u2 v2 ts xs wx h1 h2 h3 h4 (by omega) (by omega)
  clear hT hX hz1 hcls hbit hbT hfX hb2
  generalize keyB (sumA (sumRight n nm bad ts xs) n nm bad ts xs) = r at *
  generalize hB : sumBulk n nm ts xs = B at *
  clear hB
  have hneg : ¬ (1048576 - (B : Int) < 0) := by omega
  go_enter Tryz.func5, Tryz.ntmps5
  go_wp2_with fail
  refine HZ.out.mono ?_
  rintro e w1 ⟨rfl, hb1⟩
  have D1 : Below (w.heap.size + 1) (w.alloc (.cells #[.string nm, .bool bad, .slice aT ts.length cT, .slice aX xs.length cX] 36)) w1 := hb1.mono (by simp)
  have HA : Hid (∀ wx : World, Below (w.heap.size + 1) (w.alloc (.cells #[.string nm, .bool bad, .slice aT ts.length cT, .slice aX xs.length cX] 36)) wx → FourK wx w.heap.size (.string nm) (.bool bad) (.slice aT ts.length cT) (.slice aX xs.length cX) ∧ Below w.heap.size w wx) := fun wx hx => ⟨fourK_new rfl hx, hB1.trans (hx.mono (by omega))⟩
  have hz1 : w.heap.size + 1 ≤ w1.heap.size := by have := hb1.size; simpa using this
  clear hb1 HZ
  obtain ⟨⟨a0, a1, a2, a3⟩, hw1⟩ := HA.out w1 D1
  go_wp2_with fail
  refine (HT.out _ hw1).mono ?_
  rintro e w2 ⟨gT2, gX2, loT2, hiT2, loX2, hiX2, rfl, hnT2, hnX2, _, _, hb2⟩
  have D2 := D1.trans (hb2.mono hz1)
  have hz2 : w.heap.size + 1 ≤ w2.heap.size := Nat.le_trans hz1 hb2.size
  have HS2 : Hid (type_of% (HS.out _ _ _ hnT2.at hnX2.at)) := HS.out _ _ _ hnT2.at hnX2.at
  clear a0 a1 a2 a3 hw1 hnT2 hnX2 D1 hz1 hb2 HS
  go_wp2_with fail
  refine HS2.out.mono ?_
  rintro e w3 ⟨rfl, hb3⟩
  have D3 := D2.trans (hb3.mono hz2)
  have hz3 : w.heap.size + 1 ≤ w3.heap.size := Nat.le_trans hz2 hb3.size
  clear D2 hz2 hb3 HS2
  obtain ⟨⟨a0, a1, a2, a3⟩, hw3⟩ := HA.out w3 D3
  go_wp2_with fail
  refine (HT.out _ hw3).mono ?_
  rintro e w4 ⟨gT4, gX4, loT4, hiT4, loX4, hiX4, rfl, hnT4, hnX4, _, _, hb4⟩
  have D4 := D3.trans (hb4.mono hz3)
  have hz4 : w.heap.size + 1 ≤ w4.heap.size := Nat.le_trans hz3 hb4.size
  have bJ : Below w4.heap.size w4 (w4.alloc (.cells #[.string nm, .bool bad, .slice (some ⟨gT4, 0, none⟩) ts.length ts.length, .slice (some ⟨gX4, 0, none⟩) xs.length xs.length] 41)) := (Below.refl _ _).alloc (Nat.le_refl _) _
  have hmT := hnT4.step (Above.of_below bJ)
  have hmX := hnX4.step (Above.of_below bJ)
  clear a0 a1 a2 a3 hw3 D3 hz3 hb4 hnT4 hnX4
  have D5 : Below (w.heap.size + 1) (w.alloc (.cells #[.string nm, .bool bad, .slice aT ts.length cT, .slice aX xs.length cX] 36)) (w4.alloc (.cells #[.string nm, .bool bad, .slice (some ⟨gT4, 0, none⟩) ts.length ts.length, .slice (some ⟨gX4, 0, none⟩) xs.length xs.length] 41)) := D4.alloc hz4 _
  have HJ : Hid (∀ wx : World, Below (w4.heap.size + 1) (w4.alloc (.cells #[.string nm, .bool bad, .slice (some ⟨gT4, 0, none⟩) ts.length ts.length, .slice (some ⟨gX4, 0, none⟩) xs.length xs.length] 41)) wx → FourK wx w4.heap.size (.string nm) (.bool bad) (.slice (some ⟨gT4, 0, none⟩) ts.length ts.length) (.slice (some ⟨gX4, 0, none⟩) xs.length xs.length) ∧ EnvAt wx n (.slice (some ⟨gT4, 0, none⟩) ts.length ts.length) ts ∧ EnvAt wx n (.slice (some ⟨gX4, 0, none⟩) xs.length xs.length) xs) := fun wx hx => ⟨fourK_new rfl hx, (hmT.at).below (hx.mono (by simp)), (hmX.at).below (hx.mono (by simp))⟩
  have HC := HI.out _ _ _ _ _ _ _ (hmT.2 _ (Above.refl _ _)) hmT.1 (hmX.2 _ (Above.refl _ _)) hmX.1 (hB1.trans (D5.mono (by omega)))
  have HC2 : Hid (type_of% HC) := HC
  clear hmT hmX D4 HI HC bJ
  go_wp2_with fail
  refine HC2.out.mono ?_
  rintro e w6 ⟨rfl, hb6⟩
  have E6 : Below (w4.heap.size + 1) (w4.alloc (.cells #[.string nm, .bool bad, .slice (some ⟨gT4, 0, none⟩) ts.length ts.length, .slice (some ⟨gX4, 0, none⟩) xs.length xs.length] 41)) w6 := hb6.mono (by simp)
  have D6 : Below (w.heap.size + 1) (w.alloc (.cells #[.string nm, .bool bad, .slice aT ts.length cT, .slice aX xs.length cX] 36)) w6 := D5.trans (hb6.mono (by simp; omega))
  have hz6 : w4.heap.size + 1 ≤ w6.heap.size := by have := hb6.size; simpa using this
  clear hb6 HC2 D5
  obtain ⟨⟨a0, a1, a2, a3⟩, hw6⟩ := HA.out w6 D6
  obtain ⟨⟨b0, b1, b2, b3⟩, hqT6, hqX6⟩ := HJ.out w6 E6
  go_wp2_with fail
  go_region_with (first | (go_at_call 13; refine (HT.out _ hw6.drew).mono ?_; rintro e w7 ⟨gT7, gX7, loT7, hiT7, loX7, hiX7, rfl, hnT7, hnX7, _, _, hb7⟩; have E7 := E6.drew.trans (hb7.mono hz6); have hw7 := hw6.drew.trans (hb7.mono hw6.size); obtain ⟨⟨c0, c1, c2, c3⟩, hqT7, hqX7⟩ := HJ.out w7 E7) | (go_at_call 15; refine (HE.out _ _ _ _ _ hqT7 hqX7 hnT7.at hnX7.at).mono ?_; rintro e w8 ⟨rfl, hb8⟩))
  all_goals
   go_wp2_with fail
   go_ret
   exact ⟨rfl, hw7.trans (hb8.mono hw7.size)⟩
 ·have hz1 : leftOf (sumBulk n nm ts xs) 1048576 = -1 := if_neg (by omega)
  rw [hz1] at HZ
  clear hT hX hbk hz1 hcls hbit
  go_enter Tryz.func5, Tryz.ntmps5
  go_wp2_with fail
  refine HZ.out.mono ?_
  rintro e w1 ⟨rfl, hb1⟩
  go_wp2_with fail
  go_ret
  exact ⟨rfl, hB1.trans (hb1.mono (by simp))⟩
end Go.Proofs.YtbojmbeopnlmiaaGreatDoor

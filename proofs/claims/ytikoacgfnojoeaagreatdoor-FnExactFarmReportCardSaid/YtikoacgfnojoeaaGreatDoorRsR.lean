/-
  The walks of the laws' own helpers szResult, toResult and eqResult; a result that is handed in, opened.
-/
import Derived.Test.YtikoacgfnojoeaaGreatDoorSuR
import Derived.Test.YtikoacgfnojoeaaGreatDoorDiT
namespace Go.Proofs.YtikoacgfnojoeaaGreatDoor
open Go.ChangeShapes Go.WideShapes Go.ChangeAt Go.RowKit

set_option maxHeartbeats 1600000 in
set_option maxRecDepth 100000 in
theorem lawsSzSumL (left : Int) (n : Nat) (nm : ByteArray) (bad : Bool) (vT vX : Value) (ts xs : List (ByteArray × Ty)) (w : World) (hT : EnvAt w n vT ts) (hX : EnvAt w n vX xs) (hns : nm.size ≤ maxLen) (hlT : ts.length ≤ maxLen) (hlX : xs.length ≤ maxLen) (hl0 : 0 ≤ left) (hl1 : left ≤ 1048576) :
    Calls Tryz.prog 55 #[.agg #[.string nm, .bool bad, vT, vX], .int .i64 left] w fun e w' => e = .returned (.int .i64 (leftOf (sumBulk n nm ts xs) left)) ∧ Below w.heap.size w w' := by
  obtain ⟨aT, cT, rfl, _⟩ := envOpen hT
  obtain ⟨aX, cX, rfl, _⟩ := envOpen hX
  have hB1 : Below w.heap.size w (w.alloc (.cells #[.string nm, .bool bad, .slice aT ts.length cT, .slice aX xs.length cX] 90)) := (Below.refl _ _).alloc (Nat.le_refl _) _
  have hzA : w.heap.size < (w.alloc (.cells #[.string nm, .bool bad, .slice aT ts.length cT, .slice aX xs.length cX] 90)).heap.size := by simp
  have hbx : (w.alloc (.cells #[.string nm, .bool bad, .slice aT ts.length cT, .slice aX xs.length cX] 90)).heap[w.heap.size]? = some (.cells #[.string nm, .bool bad, .slice aT ts.length cT, .slice aX xs.length cX] 90 (0, 0)) := (MapKept.heap_alloc w _).1
  have HCT : Hid (∀ (lf : Int) (wx : World), 0 ≤ lf → lf ≤ 1048576 → Below w.heap.size w wx → Calls Tryz.prog 69 #[.slice aT ts.length cT, .int .i64 lf] wx fun e w' => e = .returned (.int .i64 (leftOf (envBulk n ts) lf)) ∧ Below wx.heap.size wx w') := fun lf wx h0 h1 hx => lawsSzEnv n _ ts lf wx (hT.below hx) hlT h0 h1
  have HCX : Hid (∀ (lf : Int) (wx : World), 0 ≤ lf → lf ≤ 1048576 → Below w.heap.size w wx → Calls Tryz.prog 69 #[.slice aX xs.length cX, .int .i64 lf] wx fun e w' => e = .returned (.int .i64 (leftOf (envBulk n xs) lf)) ∧ Below wx.heap.size wx w') := fun lf wx h0 h1 hx => lawsSzEnv n _ xs lf wx (hX.below hx) hlX h0 h1
  obtain ⟨RR, hRR⟩ : ∃ RR, RR = leftOf (sumBulk n nm ts xs) left := ⟨_, rfl⟩
  rw [← hRR]
  unfold leftOf sumBulk at hRR
  unfold maxLen at hns
  have HR : Hid (type_of% hRR) := hRR
  clear hRR hT hX hlT hlX
  generalize envBulk n ts = bt at *
  generalize envBulk n xs = bx at *
  by_cases d1 : left - (nm.size : Int) < 0
  · have HN : Hid (RR = -1) := by
      show _ = _
      rw [HR.out, if_neg (by omega)]
    clear HR HCT HCX hbx
    go_enter Tryz.func55, Tryz.ntmps55
    go_wp2_with fail
    go_ret
    exact ⟨by rw [HN.out]; rfl, hB1⟩
  · obtain ⟨l1, hl1⟩ : ∃ l1 : Int, l1 = left - (nm.size : Int) := ⟨_, rfl⟩
    have HL1 : Hid (type_of% hl1) := hl1
    have HC1 := HCT.out (left - (nm.size : Int)) _ (by omega) (by omega) hB1
    by_cases d2 : (bt : Int) ≤ left - (nm.size : Int)
    · have e2 : leftOf bt (left - (nm.size : Int)) = left - (nm.size : Int) - bt := if_pos d2
      rw [e2] at HC1
      have HC2 : Hid (type_of% HC1) := HC1
      have hn2 : ¬ (left - (nm.size : Int) - (bt : Int) < 0) := by omega
      clear e2 HC1 HL1 hl1
      by_cases d3 : (bx : Int) ≤ left - (nm.size : Int) - bt
      · have e3 : leftOf bx (left - (nm.size : Int) - bt) = left - (nm.size : Int) - bt - bx := if_pos d3
        have HN : Hid (RR = left - (nm.size : Int) - bt - bx) := by
          show _ = _
          rw [HR.out, if_pos (by omega)]
          omega
        have hn3 : ¬ (left - (nm.size : Int) - (bt : Int) - (bx : Int) < 0) := by omega
        have HC3 : Hid (∀ wx, Below w.heap.size w wx → Calls Tryz.prog 69 #[.slice aX xs.length cX, .int .i64 (left - (nm.size : Int) - bt)] wx fun e w' => e = .returned (.int .i64 (left - (nm.size : Int) - bt - bx)) ∧ Below wx.heap.size wx w') := fun wx hx => by
          have := HCX.out (left - (nm.size : Int) - bt) wx (by omega) (by omega) hx
          rw [e3] at this
          exact this
        clear e3 HR HCT HCX
        go_enter Tryz.func55, Tryz.ntmps55
        go_wp2_with fail
        refine HC2.out.mono ?_
        rintro e w2 ⟨rfl, hb2⟩
        have hw2 := hB1.trans (hb2.mono hB1.size)
        obtain ⟨⟨_, _, _, q3⟩, _⟩ := block4R ((hb2.block _ hzA).trans hbx)
        go_wp2_with fail
        refine (HC3.out _ hw2).mono ?_
        rintro e w3 ⟨rfl, hb3⟩
        go_wp2_with fail
        go_ret
        exact ⟨by rw [HN.out]; rfl, hw2.trans (hb3.mono hw2.size)⟩
      · have e3 : leftOf bx (left - (nm.size : Int) - bt) = -1 := if_neg d3
        have HN : Hid (RR = -1) := by
          show _ = _
          rw [HR.out, if_neg (by omega)]
        have HC3 : Hid (∀ wx, Below w.heap.size w wx → Calls Tryz.prog 69 #[.slice aX xs.length cX, .int .i64 (left - (nm.size : Int) - bt)] wx fun e w' => e = .returned (.int .i64 (-1)) ∧ Below wx.heap.size wx w') := fun wx hx => by
          have := HCX.out (left - (nm.size : Int) - bt) wx (by omega) (by omega) hx
          rw [e3] at this
          exact this
        clear e3 HR HCT HCX
        go_enter Tryz.func55, Tryz.ntmps55
        go_wp2_with fail
        refine HC2.out.mono ?_
        rintro e w2 ⟨rfl, hb2⟩
        have hw2 := hB1.trans (hb2.mono hB1.size)
        obtain ⟨⟨_, _, _, q3⟩, _⟩ := block4R ((hb2.block _ hzA).trans hbx)
        go_wp2_with fail
        refine (HC3.out _ hw2).mono ?_
        rintro e w3 ⟨rfl, hb3⟩
        go_wp2_with fail
        go_ret
        exact ⟨by rw [HN.out]; rfl, hw2.trans (hb3.mono hw2.size)⟩
    · have e2 : leftOf bt (left - (nm.size : Int)) = -1 := if_neg d2
      rw [e2] at HC1
      have HC2 : Hid (type_of% HC1) := HC1
      have HN : Hid (RR = -1) := by
        show _ = _
        rw [HR.out, if_neg (by omega)]
      clear e2 HC1 HL1 hl1 HR HCT HCX hbx
      go_enter Tryz.func55, Tryz.ntmps55
      go_wp2_with fail
      refine HC2.out.mono ?_
      rintro e w2 ⟨rfl, hb2⟩
      go_wp2_with fail
      go_ret
      exact ⟨by rw [HN.out]; rfl, hB1.trans (hb2.mono hB1.size)⟩

/-- how much a result holds -/
def resBulk (n : Nat) (rn : ByteArray) (ds : List Dg) (nm : ByteArray) (ts xs : List (ByteArray × Ty)) : Nat := rn.size + dgsBulk ds + sumBulk n nm ts xs
theorem leftD_yes {b : Nat} {l : Int} (h : (b : Int) ≤ l) : leftD b l = l - b := if_pos h
theorem leftD_no {b : Nat} {l : Int} (h : ¬ (b : Int) ≤ l) : leftD b l = -1 := if_neg h
theorem leftOf_yes {b : Nat} {l : Int} (h : (b : Int) ≤ l) : leftOf b l = l - b := if_pos h
theorem leftOf_no {b : Nat} {l : Int} (h : ¬ (b : Int) ≤ l) : leftOf b l = -1 := if_neg h

/-- what a box of six cells holds -/
def SixR (W : World) (b : Nat) (x0 x1 x2 x3 x4 x5 : Value) : Prop := (W.cell? ⟨b, 0, none⟩ = some x0 ∧ W.cell? ⟨b, 1, none⟩ = some x1 ∧ W.cell? ⟨b, 2, none⟩ = some x2 ∧ W.cell? ⟨b, 3, none⟩ = some x3 ∧ W.cell? ⟨b, 4, none⟩ = some x4 ∧ W.cell? ⟨b, 5, none⟩ = some x5) ∧ ∀ j, W.frozen? ⟨b, j, none⟩ = false
theorem block6R {W : World} {b : Nat} {x0 x1 x2 x3 x4 x5 : Value} {t : TypeId} (h : W.heap[b]? = some (.cells #[x0, x1, x2, x3, x4, x5] t (0, 0))) : SixR W b x0 x1 x2 x3 x4 x5 := by
  refine ⟨⟨?_, ?_, ?_, ?_, ?_, ?_⟩, fun j => frozen_of_row W b j _ _ h⟩
  · rw [cell_of_row W b 0 _ _ (0, 0) h]; rfl
  · rw [cell_of_row W b 1 _ _ (0, 0) h]; rfl
  · rw [cell_of_row W b 2 _ _ (0, 0) h]; rfl
  · rw [cell_of_row W b 3 _ _ (0, 0) h]; rfl
  · rw [cell_of_row W b 4 _ _ (0, 0) h]; rfl
  · rw [cell_of_row W b 5 _ _ (0, 0) h]; rfl
theorem sixR_new {w wx : World} {b : Nat} {x0 x1 x2 x3 x4 x5 : Value} {t : TypeId} (h : b = w.heap.size) (hb : Below (b + 1) (w.alloc (.cells #[x0, x1, x2, x3, x4, x5] t)) wx) : SixR wx b x0 x1 x2 x3 x4 x5 := by
  subst h
  exact block6R ((hb.block _ (by omega)).trans (MapKept.heap_alloc w _).1)

set_option maxHeartbeats 1600000 in
set_option maxRecDepth 100000 in
theorem lawsSzRes (n : Nat) (rn : ByteArray) (vD : Value) (ds : List Dg) (nm : ByteArray) (bad : Bool) (vT vX : Value) (ts xs : List (ByteArray × Ty)) (w : World) (hD : DiAt w vD ds) (hT : EnvAt w n vT ts) (hX : EnvAt w n vX xs) (hrn : rn.size ≤ maxLen) (hld : ds.length ≤ maxLen) (hsd : ∀ e ∈ ds, e.2.size ≤ maxLen) (hns : nm.size ≤ maxLen) (hlT : ts.length ≤ maxLen) (hlX : xs.length ≤ maxLen) :
    Calls Tryz.prog 33 #[.agg #[.string rn, vD, .string nm, .bool bad, vT, vX], .int .i64 1048576] w fun e w' => e = .returned (.int .i64 (leftOf (resBulk n rn ds nm ts xs) 1048576)) ∧ Below w.heap.size w w' := by
  obtain ⟨aD, cD, rfl, _⟩ := diOpen hD
  obtain ⟨aT, cT, rfl, _⟩ := envOpen hT
  obtain ⟨aX, cX, rfl, _⟩ := envOpen hX
  have hB1 : Below w.heap.size w (w.alloc (.cells #[.string rn, .slice aD ds.length cD, .string nm, .bool bad, .slice aT ts.length cT, .slice aX xs.length cX] 92)) := (Below.refl _ _).alloc (Nat.le_refl _) _
  have HA : Hid (∀ wx : World, Below (w.heap.size + 1) (w.alloc (.cells #[.string rn, .slice aD ds.length cD, .string nm, .bool bad, .slice aT ts.length cT, .slice aX xs.length cX] 92)) wx → SixR wx w.heap.size (.string rn) (.slice aD ds.length cD) (.string nm) (.bool bad) (.slice aT ts.length cT) (.slice aX xs.length cX)) := fun wx hx => sixR_new rfl hx
  have HD : Hid (∀ (lf : Int) (wx : World), 0 ≤ lf → lf ≤ 1048576 → Below w.heap.size w wx → Calls Tryz.prog 54 #[.slice aD ds.length cD, .int .i64 lf] wx fun e w' => e = .returned (.int .i64 (leftD (dgsBulk ds) lf)) ∧ Below wx.heap.size wx w') := fun lf wx h0 h1 hx => lawsSzDgs _ ds lf wx (hD.below hx) hld hsd h0 h1
  have HS : Hid (∀ (lf : Int) (wx : World), 0 ≤ lf → lf ≤ 1048576 → Below w.heap.size w wx → Calls Tryz.prog 55 #[.agg #[.string nm, .bool bad, .slice aT ts.length cT, .slice aX xs.length cX], .int .i64 lf] wx fun e w' => e = .returned (.int .i64 (leftOf (sumBulk n nm ts xs) lf)) ∧ Below wx.heap.size wx w') := fun lf wx h0 h1 hx => lawsSzSumL lf n nm bad _ _ ts xs wx (hT.below hx) (hX.below hx) hns hlT hlX h0 h1
  obtain ⟨RR, hRR⟩ : ∃ RR, RR = leftOf (resBulk n rn ds nm ts xs) 1048576 := ⟨_, rfl⟩
  rw [← hRR]
  unfold leftOf resBulk at hRR
  unfold maxLen at hrn
  have HR : Hid (type_of% hRR) := hRR
  clear hRR hD hT hX hld hlT hlX hsd hns
  generalize dgsBulk ds = bd at *
  generalize sumBulk n nm ts xs = bs at *
  by_cases d1 : (1048576 : Int) - (rn.size : Int) < 0
  · have HN : Hid (RR = -1) := by
      show _ = _
      rw [HR.out, if_neg (by omega)]
    clear HR HD HS HA
    go_enter Tryz.func33, Tryz.ntmps33
    go_wp2_with fail
    go_ret
    exact ⟨by rw [HN.out]; rfl, hB1⟩
  · have HC1 := HD.out (1048576 - (rn.size : Int)) _ (by omega) (by omega) hB1
    by_cases d2 : (bd : Int) ≤ 1048576 - (rn.size : Int)
    · rw [leftD_yes d2] at HC1
      have HC2 : Hid (type_of% HC1) := HC1
      have hn2 : ¬ (1048576 - (rn.size : Int) - (bd : Int) < 0) := by omega
      clear HC1
      by_cases d3 : (bs : Int) ≤ 1048576 - (rn.size : Int) - bd
      · have HN : Hid (RR = 1048576 - (rn.size : Int) - bd - bs) := by
          show _ = _
          rw [HR.out, if_pos (by omega)]
          omega
        have hn3 : ¬ (1048576 - (rn.size : Int) - (bd : Int) - (bs : Int) < 0) := by omega
        have HC3 : Hid (∀ wx, Below w.heap.size w wx → Calls Tryz.prog 55 #[.agg #[.string nm, .bool bad, .slice aT ts.length cT, .slice aX xs.length cX], .int .i64 (1048576 - (rn.size : Int) - bd)] wx fun e w' => e = .returned (.int .i64 (1048576 - (rn.size : Int) - bd - bs)) ∧ Below wx.heap.size wx w') := fun wx hx => by
          have := HS.out (1048576 - (rn.size : Int) - bd) wx (by omega) (by omega) hx
          rw [leftOf_yes d3] at this
          exact this
        clear HR HD HS
        go_enter Tryz.func33, Tryz.ntmps33
        go_wp2_with fail
        refine HC2.out.mono ?_
        rintro e w2 ⟨rfl, hb2⟩
        have hw2 := hB1.trans (hb2.mono hB1.size)
        obtain ⟨⟨_, _, q2, q3, q4, q5⟩, _⟩ := HA.out w2 (hb2.mono (by simp))
        go_wp2_with fail
        refine (HC3.out _ hw2).mono ?_
        rintro e w3 ⟨rfl, hb3⟩
        go_wp2_with fail
        go_ret
        exact ⟨by rw [HN.out]; rfl, hw2.trans (hb3.mono hw2.size)⟩
      · have HN : Hid (RR = -1) := by
          show _ = _
          rw [HR.out, if_neg (by omega)]
        have HC3 : Hid (∀ wx, Below w.heap.size w wx → Calls Tryz.prog 55 #[.agg #[.string nm, .bool bad, .slice aT ts.length cT, .slice aX xs.length cX], .int .i64 (1048576 - (rn.size : Int) - bd)] wx fun e w' => e = .returned (.int .i64 (-1)) ∧ Below wx.heap.size wx w') := fun wx hx => by
          have := HS.out (1048576 - (rn.size : Int) - bd) wx (by omega) (by omega) hx
          rw [leftOf_no d3] at this
          exact this
        clear HR HD HS
        go_enter Tryz.func33, Tryz.ntmps33
        go_wp2_with fail
        refine HC2.out.mono ?_
        rintro e w2 ⟨rfl, hb2⟩
        have hw2 := hB1.trans (hb2.mono hB1.size)
        obtain ⟨⟨_, _, q2, q3, q4, q5⟩, _⟩ := HA.out w2 (hb2.mono (by simp))
        go_wp2_with fail
        refine (HC3.out _ hw2).mono ?_
        rintro e w3 ⟨rfl, hb3⟩
        go_wp2_with fail
        go_ret
        exact ⟨by rw [HN.out]; rfl, hw2.trans (hb3.mono hw2.size)⟩
    · rw [leftD_no d2] at HC1
      have HC2 : Hid (type_of% HC1) := HC1
      have HN : Hid (RR = -1) := by
        show _ = _
        rw [HR.out, if_neg (by omega)]
      clear HC1 HR HD HS HA
      go_enter Tryz.func33, Tryz.ntmps33
      go_wp2_with fail
      refine HC2.out.mono ?_
      rintro e w2 ⟨rfl, hb2⟩
      go_wp2_with fail
      go_ret
      exact ⟨by rw [HN.out]; rfl, hB1.trans (hb2.mono hB1.size)⟩

set_option maxHeartbeats 800000 in
set_option maxRecDepth 100000 in
theorem lawsEqRes (n : Nat) (rn : ByteArray) (vD uD : Value) (ds : List Dg) (nm : ByteArray) (bad : Bool) (vT vX uT uX : Value) (ts xs : List (ByteArray × Ty)) (w : World) (hD : DiAt w vD ds) (gD : DiAt w uD ds) (hT : EnvAt w n vT ts) (hX : EnvAt w n vX xs) (gT : EnvAt w n uT ts) (gX : EnvAt w n uX xs) (hld : ds.length ≤ 1048577) (hbT : envBulk n ts ≤ 1048576) (hbX : envBulk n xs ≤ 1048576) :
    Calls Tryz.prog 51 #[.agg #[.string rn, vD, .string nm, .bool bad, vT, vX], .agg #[.string rn, uD, .string nm, .bool bad, uT, uX]] w fun e w' => e = .returned (.bool true) ∧ Below w.heap.size w w' := by
  have HD : Hid (∀ wx, Below w.heap.size w wx → Calls Tryz.prog 65 #[vD, uD] wx fun e w' => e = .returned (.bool true) ∧ Below wx.heap.size wx w') := fun wx hx => lawsEqDgs _ _ ds wx (hD.below hx) (gD.below hx) hld
  have HS : Hid (∀ wx, Below w.heap.size w wx → Calls Tryz.prog 66 #[.agg #[.string nm, .bool bad, vT, vX], .agg #[.string nm, .bool bad, uT, uX]] wx fun e w' => e = .returned (.bool true) ∧ Below wx.heap.size wx w') := fun wx hx => lawsEqSum n nm bad _ _ _ _ ts xs wx (hT.below hx) (hX.below hx) (gT.below hx) (gX.below hx) hbT hbX
  obtain ⟨aD, cD, rfl, _⟩ := diOpen hD
  obtain ⟨bD, eD, rfl, _⟩ := diOpen gD
  obtain ⟨aT, cT, rfl, _⟩ := envOpen hT
  obtain ⟨aX, cX, rfl, _⟩ := envOpen hX
  obtain ⟨bT, dT, rfl, _⟩ := envOpen gT
  obtain ⟨bX, dX, rfl, _⟩ := envOpen gX
  have hB2 : Below w.heap.size w ((w.alloc (.cells #[.string rn, .slice aD ds.length cD, .string nm, .bool bad, .slice aT ts.length cT, .slice aX xs.length cX] 63)).alloc (.cells #[.string rn, .slice bD ds.length eD, .string nm, .bool bad, .slice bT ts.length dT, .slice bX xs.length dX] 63)) := ((Below.refl _ _).alloc (Nat.le_refl _) _).alloc (by simp) _
  have h1 : ((w.alloc (.cells #[.string rn, .slice aD ds.length cD, .string nm, .bool bad, .slice aT ts.length cT, .slice aX xs.length cX] 63)).alloc (.cells #[.string rn, .slice bD ds.length eD, .string nm, .bool bad, .slice bT ts.length dT, .slice bX xs.length dX] 63)).heap[w.heap.size]? = some (.cells #[.string rn, .slice aD ds.length cD, .string nm, .bool bad, .slice aT ts.length cT, .slice aX xs.length cX] 63 (0, 0)) := ((MapKept.heap_alloc (w.alloc _) _).2 _ (by simp)).trans (MapKept.heap_alloc w _).1
  have h2 : ((w.alloc (.cells #[.string rn, .slice aD ds.length cD, .string nm, .bool bad, .slice aT ts.length cT, .slice aX xs.length cX] 63)).alloc (.cells #[.string rn, .slice bD ds.length eD, .string nm, .bool bad, .slice bT ts.length dT, .slice bX xs.length dX] 63)).heap[w.heap.size + 1]? = some (.cells #[.string rn, .slice bD ds.length eD, .string nm, .bool bad, .slice bT ts.length dT, .slice bX xs.length dX] 63 (0, 0)) := by
    have := (MapKept.heap_alloc (w.alloc (.cells #[.string rn, .slice aD ds.length cD, .string nm, .bool bad, .slice aT ts.length cT, .slice aX xs.length cX] 63)) (.cells #[.string rn, .slice bD ds.length eD, .string nm, .bool bad, .slice bT ts.length dT, .slice bX xs.length dX] 63)).1
    simpa using this
  have hzz : w.heap.size + 1 < ((w.alloc (.cells #[.string rn, .slice aD ds.length cD, .string nm, .bool bad, .slice aT ts.length cT, .slice aX xs.length cX] 63)).alloc (.cells #[.string rn, .slice bD ds.length eD, .string nm, .bool bad, .slice bT ts.length dT, .slice bX xs.length dX] 63)).heap.size := by simp
  clear hD gD hT hX gT gX
  go_enter Tryz.func51, Tryz.ntmps51
  go_wp2_with fail
  refine (HD.out _ hB2).mono ?_
  rintro e w2 ⟨rfl, hb2⟩
  have hw2 := hB2.trans (hb2.mono hB2.size)
  obtain ⟨⟨_, _, q2, q3, q4, q5⟩, _⟩ := block6R ((hb2.block _ (by omega)).trans h1)
  obtain ⟨⟨_, _, r2, r3, r4, r5⟩, _⟩ := block6R ((hb2.block _ hzz).trans h2)
  clear h1 h2 hzz
  go_wp2_with fail
  refine (HS.out _ hw2).mono ?_
  rintro e w3 ⟨rfl, hb3⟩
  go_wp2_with fail
  go_ret
  exact ⟨rfl, hw2.trans (hb3.mono hw2.size)⟩

theorem ret_res {R : Ending → World → Prop} {W : World} {tmps : Array Value} {b : Nat} {x0 x1 x2 x3 x4 x5 : Value} (hp : tmps[2]?.getD undef = .pointer (some ⟨b, 0, none⟩))
    (h : W.cell? ⟨b, 0, none⟩ = some x0 ∧ W.cell? ⟨b, 1, none⟩ = some x1 ∧ W.cell? ⟨b, 2, none⟩ = some x2 ∧ W.cell? ⟨b, 3, none⟩ = some x3 ∧ W.cell? ⟨b, 4, none⟩ = some x4 ∧ W.cell? ⟨b, 5, none⟩ = some x5) (hR : R (.returned (.agg #[x0, x1, x2, x3, x4, x5])) W) :
    bodyPost Tryz.prog Tryz.f40 R .ret { tmps := tmps, defers := [] } W := by
  obtain ⟨h0, h1, h2, h3, h4, h5⟩ := h
  refine bodyPost_ret (v := .agg #[x0, x1, x2, x3, x4, x5]) ?_ rfl hR
  simp [results, Tryz.results40, go_sem, hp, h0, h1, h2, h3, h4, h5]

/-- six cells put into a box -/
def put6 (w0 : World) (b : Nat) (x0 x1 x2 x3 x4 x5 : Value) : World := (((((w0.setCell ⟨b, 0, none⟩ x0).setCell ⟨b, 1, none⟩ x1).setCell ⟨b, 2, none⟩ x2).setCell ⟨b, 3, none⟩ x3).setCell ⟨b, 4, none⟩ x4).setCell ⟨b, 5, none⟩ x5
theorem put6R {w0 : World} {b : Nat} {z0 z1 z2 z3 z4 z5 x0 x1 x2 x3 x4 x5 : Value} {t : TypeId} (h : w0.heap[b]? = some (.cells #[z0, z1, z2, z3, z4, z5] t (0, 0))) : (put6 w0 b x0 x1 x2 x3 x4 x5).heap[b]? = some (.cells #[x0, x1, x2, x3, x4, x5] t (0, 0)) :=
  heap_setCell_same _ b 5 _ _ x5 (heap_setCell_same _ b 4 _ _ x4 (heap_setCell_same _ b 3 _ _ x3 (heap_setCell_same _ b 2 _ _ x2 (heap_setCell_same _ b 1 _ _ x1 (heap_setCell_same w0 b 0 _ _ x0 h)))))
/-- four cells put into a box behind the first two -/
def put4of6 (w0 : World) (b : Nat) (x2 x3 x4 x5 : Value) : World := (((w0.setCell ⟨b, 2, none⟩ x2).setCell ⟨b, 3, none⟩ x3).setCell ⟨b, 4, none⟩ x4).setCell ⟨b, 5, none⟩ x5
theorem put4of6_above (w0 : World) (b B : Nat) (x2 x3 x4 x5 : Value) (h : b < B) : Above B w0 (put4of6 w0 b x2 x3 x4 x5) := (((Above.set _ _ _ h).trans (Above.set _ _ _ h)).trans (Above.set _ _ _ h)).trans (Above.set _ _ _ h)
theorem put6_above (w0 : World) (b B : Nat) (x0 x1 x2 x3 x4 x5 : Value) (h : b < B) : Above B w0 (put6 w0 b x0 x1 x2 x3 x4 x5) := (((((Above.set _ _ _ h).trans (Above.set _ _ _ h)).trans (Above.set _ _ _ h)).trans (Above.set _ _ _ h)).trans (Above.set _ _ _ h)).trans (Above.set _ _ _ h)
theorem put4of6_other (w0 : World) (b g : Nat) (x2 x3 x4 x5 : Value) (h : g ≠ b) : (put4of6 w0 b x2 x3 x4 x5).heap[g]? = w0.heap[g]? := by
  have hb : ∀ (W : World) (o : Nat) (x : Value), (W.setCell ⟨b, o, none⟩ x).heap[g]? = W.heap[g]? := fun W o x => Below.heap_setCell _ _ _ _ (by simpa using h)
  unfold put4of6
  rw [hb, hb, hb, hb]

set_option maxHeartbeats 1600000 in
set_option maxRecDepth 100000 in
theorem lawsToRes (n : Nat) (rn : ByteArray) (vD : Value) (ds : List Dg) (nm : ByteArray) (bad : Bool) (vT vX : Value) (ts xs : List (ByteArray × Ty)) (w : World) (hD : DiAt w vD ds) (hT : EnvAt w n vT ts) (hX : EnvAt w n vX xs) (hld : ds.length ≤ 1048576) (hbT : envBulk n ts ≤ 1048576) (hbX : envBulk n xs ≤ 1048576) :
    Calls Tryz.prog 40 #[.agg #[.string rn, vD, .string nm, .bool bad, vT, vX]] w fun e w' => ∃ gD gT gX loT hiT loX hiX, e = .returned (.agg #[.string rn, .slice (some ⟨gD, 0, none⟩) ds.length ds.length, .string nm, .bool bad, .slice (some ⟨gT, 0, none⟩) ts.length ts.length, .slice (some ⟨gX, 0, none⟩) xs.length xs.length]) ∧ w'.ownsRow w.heap.size 100 2 (.slice (some ⟨gD, 0, none⟩) ds.length ds.length) ds.length (dgV ds) ∧ NewEnv loT hiT w' n (.slice (some ⟨gT, 0, none⟩) ts.length ts.length) ts ∧ NewEnv loX hiX w' n (.slice (some ⟨gX, 0, none⟩) xs.length xs.length) xs ∧ w.heap.size ≤ loT ∧ w.heap.size ≤ loX ∧ Below w.heap.size w w' := by
  obtain ⟨aD, cD, rfl, _⟩ := diOpen hD
  obtain ⟨aT, cT, rfl, _⟩ := envOpen hT
  obtain ⟨aX, cX, rfl, _⟩ := envOpen hX
  have hB3 : Below w.heap.size w (((w.alloc (.cells #[.string rn, .slice aD ds.length cD, .string nm, .bool bad, .slice aT ts.length cT, .slice aX xs.length cX] 92)).alloc (.cells #[.string ⟨#[]⟩, .slice none 0 0, .string ⟨#[]⟩, .bool false, .slice none 0 0, .slice none 0 0] 63)).alloc (.cells #[.string rn, .slice none 0 0, .string ⟨#[]⟩, .bool false, .slice none 0 0, .slice none 0 0] 63)) := (((Below.refl _ _).alloc (Nat.le_refl _) _).alloc (by simp) _).alloc (by simp; omega) _
  have h3 : (((w.alloc (.cells #[.string rn, .slice aD ds.length cD, .string nm, .bool bad, .slice aT ts.length cT, .slice aX xs.length cX] 92)).alloc (.cells #[.string ⟨#[]⟩, .slice none 0 0, .string ⟨#[]⟩, .bool false, .slice none 0 0, .slice none 0 0] 63)).alloc (.cells #[.string rn, .slice none 0 0, .string ⟨#[]⟩, .bool false, .slice none 0 0, .slice none 0 0] 63)).heap.size = w.heap.size + 1 + 1 + 1 := by simp
  have b0 : (((w.alloc (.cells #[.string rn, .slice aD ds.length cD, .string nm, .bool bad, .slice aT ts.length cT, .slice aX xs.length cX] 92)).alloc (.cells #[.string ⟨#[]⟩, .slice none 0 0, .string ⟨#[]⟩, .bool false, .slice none 0 0, .slice none 0 0] 63)).alloc (.cells #[.string rn, .slice none 0 0, .string ⟨#[]⟩, .bool false, .slice none 0 0, .slice none 0 0] 63)).heap[w.heap.size]? = some (.cells #[.string rn, .slice aD ds.length cD, .string nm, .bool bad, .slice aT ts.length cT, .slice aX xs.length cX] 92 (0, 0)) := ((MapKept.heap_alloc _ _).2 _ (by simp; omega)).trans (((MapKept.heap_alloc _ _).2 _ (by simp)).trans (MapKept.heap_alloc w _).1)
  have b1 : (((w.alloc (.cells #[.string rn, .slice aD ds.length cD, .string nm, .bool bad, .slice aT ts.length cT, .slice aX xs.length cX] 92)).alloc (.cells #[.string ⟨#[]⟩, .slice none 0 0, .string ⟨#[]⟩, .bool false, .slice none 0 0, .slice none 0 0] 63)).alloc (.cells #[.string rn, .slice none 0 0, .string ⟨#[]⟩, .bool false, .slice none 0 0, .slice none 0 0] 63)).heap[w.heap.size + 1]? = some (.cells #[.string ⟨#[]⟩, .slice none 0 0, .string ⟨#[]⟩, .bool false, .slice none 0 0, .slice none 0 0] 63 (0, 0)) := by
    refine ((MapKept.heap_alloc _ _).2 _ (by simp)).trans ?_
    have := (MapKept.heap_alloc (w.alloc (.cells #[.string rn, .slice aD ds.length cD, .string nm, .bool bad, .slice aT ts.length cT, .slice aX xs.length cX] 92)) (.cells #[.string ⟨#[]⟩, .slice none 0 0, .string ⟨#[]⟩, .bool false, .slice none 0 0, .slice none 0 0] 63)).1
    simpa using this
  have b2 : (((w.alloc (.cells #[.string rn, .slice aD ds.length cD, .string nm, .bool bad, .slice aT ts.length cT, .slice aX xs.length cX] 92)).alloc (.cells #[.string ⟨#[]⟩, .slice none 0 0, .string ⟨#[]⟩, .bool false, .slice none 0 0, .slice none 0 0] 63)).alloc (.cells #[.string rn, .slice none 0 0, .string ⟨#[]⟩, .bool false, .slice none 0 0, .slice none 0 0] 63)).heap[w.heap.size + 1 + 1]? = some (.cells #[.string rn, .slice none 0 0, .string ⟨#[]⟩, .bool false, .slice none 0 0, .slice none 0 0] 63 (0, 0)) := by
    have := (MapKept.heap_alloc ((w.alloc (.cells #[.string rn, .slice aD ds.length cD, .string nm, .bool bad, .slice aT ts.length cT, .slice aX xs.length cX] 92)).alloc (.cells #[.string ⟨#[]⟩, .slice none 0 0, .string ⟨#[]⟩, .bool false, .slice none 0 0, .slice none 0 0] 63)) (.cells #[.string rn, .slice none 0 0, .string ⟨#[]⟩, .bool false, .slice none 0 0, .slice none 0 0] 63)).1
    simpa using this
  have HD : Hid (type_of% (lawsToDgs _ ds _ (hD.below hB3) hld)) := lawsToDgs _ ds _ (hD.below hB3) hld
  have HX : Hid (∀ wx, Below w.heap.size w wx → Calls Tryz.prog 59 #[.agg #[.string nm, .bool bad, .slice aT ts.length cT, .slice aX xs.length cX]] wx fun e w' => ∃ gT gX loT hiT loX hiX, e = .returned (.agg #[.string nm, .bool bad, .slice (some ⟨gT, 0, none⟩) ts.length ts.length, .slice (some ⟨gX, 0, none⟩) xs.length xs.length]) ∧ NewEnv loT hiT w' n (.slice (some ⟨gT, 0, none⟩) ts.length ts.length) ts ∧ NewEnv loX hiX w' n (.slice (some ⟨gX, 0, none⟩) xs.length xs.length) xs ∧ wx.heap.size ≤ loT ∧ wx.heap.size ≤ loX ∧ Below wx.heap.size wx w') := fun wx hx => lawsToSum n nm bad _ _ ts xs wx (hT.below hx) (hX.below hx) hbT hbX
  clear hD hT hX
  go_enter Tryz.func40, Tryz.ntmps40
  go_wp2_with fail
  generalize (((w.alloc (.cells #[.string rn, .slice aD ds.length cD, .string nm, .bool bad, .slice aT ts.length cT, .slice aX xs.length cX] 92)).alloc (.cells #[.string ⟨#[]⟩, .slice none 0 0, .string ⟨#[]⟩, .bool false, .slice none 0 0, .slice none 0 0] 63)).alloc (.cells #[.string rn, .slice none 0 0, .string ⟨#[]⟩, .bool false, .slice none 0 0, .slice none 0 0] 63)) = W3 at *
  refine HD.out.mono ?_
  rintro e w4 ⟨rfl, hn4, hb4⟩
  have hw4 : Below w.heap.size w w4 := hB3.trans (hb4.mono (by omega))
  have hz4 := hb4.size
  have c0 := (hb4.block (w.heap.size) (by omega)).trans b0
  have c1 := (hb4.block (w.heap.size + 1) (by omega)).trans b1
  have c2 := (hb4.block (w.heap.size + 1 + 1) (by omega)).trans b2
  obtain ⟨⟨_, q1, _, _, _, _⟩, qf⟩ := block6R c2
  have qf1 := qf 1
  obtain ⟨gD, hgD⟩ : ∃ gD, gD = W3.heap.size := ⟨_, rfl⟩
  rw [← hgD] at hn4 ⊢
  have hgD3 : w.heap.size + 1 + 1 < gD := by omega
  have hgD4 : gD < w4.heap.size := (hn4.lt gD rfl).2
  have hw5 : Below w.heap.size w (w4.setCell ⟨w.heap.size + 1 + 1, 1, none⟩ (.slice (some ⟨gD, 0, none⟩) ds.length ds.length)) := hw4.setCell (by simp; omega) _
  have e0 : (w4.setCell ⟨w.heap.size + 1 + 1, 1, none⟩ (.slice (some ⟨gD, 0, none⟩) ds.length ds.length)).heap[w.heap.size]? = _ := (Below.heap_setCell _ _ _ _ (by simp <;> omega)).trans c0
  have e1 : (w4.setCell ⟨w.heap.size + 1 + 1, 1, none⟩ (.slice (some ⟨gD, 0, none⟩) ds.length ds.length)).heap[w.heap.size + 1]? = _ := (Below.heap_setCell _ _ _ _ (by simp <;> omega)).trans c1
  have eD : (w4.setCell ⟨w.heap.size + 1 + 1, 1, none⟩ (.slice (some ⟨gD, 0, none⟩) ds.length ds.length)).heap[gD]? = w4.heap[gD]? := Below.heap_setCell _ _ _ _ (by simp <;> omega)
  have e2 : (w4.setCell ⟨w.heap.size + 1 + 1, 1, none⟩ (.slice (some ⟨gD, 0, none⟩) ds.length ds.length)).heap[w.heap.size + 1 + 1]? = some (.cells #[.string rn, .slice (some ⟨gD, 0, none⟩) ds.length ds.length, .string ⟨#[]⟩, .bool false, .slice none 0 0, .slice none 0 0] 63 (0, 0)) := heap_setCell_same _ _ 1 _ _ _ c2
  have hz5 : gD < (w4.setCell ⟨w.heap.size + 1 + 1, 1, none⟩ (.slice (some ⟨gD, 0, none⟩) ds.length ds.length)).heap.size := by simpa using hgD4
  obtain ⟨⟨_, _, p2, p3, p4, p5⟩, _⟩ := block6R e0
  have HN4 : Hid (type_of% hn4) := hn4
  have HX5 : Hid (type_of% (HX.out _ hw5)) := HX.out _ hw5
  clear HD HX hn4 b0 b1 b2 hB3 h3 hb4 hw4 c0 c1 c2 hgD hz4
  go_wp2_with fail
  generalize (w4.setCell ⟨w.heap.size + 1 + 1, 1, none⟩ (.slice (some ⟨gD, 0, none⟩) ds.length ds.length)) = W5 at *
  clear q1 qf qf1
  refine HX5.out.mono ?_
  rintro e w6 ⟨gT, gX, loT, hiT, loX, hiX, rfl, hnT, hnX, hlT, hlX, hb6⟩
  have hw6 := hw5.trans (hb6.mono hw5.size)
  have fD := (hb6.block gD hz5).trans eD
  have f1 := (hb6.block (w.heap.size + 1) (by omega)).trans e1
  have f2 := (hb6.block (w.heap.size + 1 + 1) (by omega)).trans e2
  obtain ⟨⟨y0, y1, y2, y3, y4, y5⟩, yf⟩ := block6R f2
  obtain ⟨⟨z0, z1, z2, z3, z4, z5⟩, zf⟩ := block6R f1
  have yf2 := yf 2
  have yf3 := yf 3
  have yf4 := yf 4
  have yf5 := yf 5
  have zf0 := zf 0
  have zf1 := zf 1
  have zf2 := zf 2
  have zf3 := zf 3
  have zf4 := zf 4
  have zf5 := zf 5
  obtain ⟨ZZZ, hZZZ⟩ : ∃ ZZZ, ZZZ = put6 (put4of6 w6 (w.heap.size + 1 + 1) (.string nm) (.bool bad) (.slice (some ⟨gT, 0, none⟩) ts.length ts.length) (.slice (some ⟨gX, 0, none⟩) xs.length xs.length)) (w.heap.size + 1) (.string rn) (.slice (some ⟨gD, 0, none⟩) ds.length ds.length) (.string nm) (.bool bad) (.slice (some ⟨gT, 0, none⟩) ts.length ts.length) (.slice (some ⟨gX, 0, none⟩) xs.length xs.length) := ⟨_, rfl⟩
  have HEND : Hid (((((((((((w6.setCell ⟨w.heap.size + 1 + 1, 2, none⟩ (.string nm)).setCell ⟨w.heap.size + 1 + 1, 3, none⟩ (.bool bad)).setCell ⟨w.heap.size + 1 + 1, 4, none⟩ (.slice (some ⟨gT, 0, none⟩) ts.length ts.length)).setCell ⟨w.heap.size + 1 + 1, 5, none⟩ (.slice (some ⟨gX, 0, none⟩) xs.length xs.length)).setCell ⟨w.heap.size + 1, 0, none⟩ (.string rn)).setCell ⟨w.heap.size + 1, 1, none⟩ (.slice (some ⟨gD, 0, none⟩) ds.length ds.length)).setCell ⟨w.heap.size + 1, 2, none⟩ (.string nm)).setCell ⟨w.heap.size + 1, 3, none⟩ (.bool bad)).setCell ⟨w.heap.size + 1, 4, none⟩ (.slice (some ⟨gT, 0, none⟩) ts.length ts.length)).setCell ⟨w.heap.size + 1, 5, none⟩ (.slice (some ⟨gX, 0, none⟩) xs.length xs.length) = ZZZ) ∧ ZZZ.ownsRow w.heap.size 100 2 (.slice (some ⟨gD, 0, none⟩) ds.length ds.length) ds.length (dgV ds) ∧ SixR ZZZ (w.heap.size + 1) (.string rn) (.slice (some ⟨gD, 0, none⟩) ds.length ds.length) (.string nm) (.bool bad) (.slice (some ⟨gT, 0, none⟩) ts.length ts.length) (.slice (some ⟨gX, 0, none⟩) xs.length xs.length) ∧ NewEnv loT hiT ZZZ n (.slice (some ⟨gT, 0, none⟩) ts.length ts.length) ts ∧ NewEnv loX hiX ZZZ n (.slice (some ⟨gX, 0, none⟩) xs.length xs.length) xs ∧ Below w.heap.size w ZZZ) := by
    have hab : Above (w.heap.size + 1 + 1 + 1) w6 ZZZ := by
      rw [hZZZ]
      exact (put4of6_above w6 (w.heap.size + 1 + 1) (w.heap.size + 1 + 1 + 1) _ _ _ _ (by omega)).trans (put6_above _ (w.heap.size + 1) (w.heap.size + 1 + 1 + 1) _ _ _ _ _ _ (by omega))
    have g1 : (put4of6 w6 (w.heap.size + 1 + 1) (.string nm) (.bool bad) (.slice (some ⟨gT, 0, none⟩) ts.length ts.length) (.slice (some ⟨gX, 0, none⟩) xs.length xs.length)).heap[w.heap.size + 1]? = _ := (put4of6_other _ _ _ _ _ _ _ (by omega)).trans f1
    refine ⟨by rw [hZZZ]; rfl, ?_, ?_, hnT.step (hab.mono (by omega)), hnX.step (hab.mono (by omega)), ?_⟩
    · refine dgLow HN4.out (by omega) fun g hg => ?_
      have hg' : g = gD := by simpa [Value.ownBlock] using hg.symm
      subst hg'
      exact (hab.2 g (by omega) (by have := hb6.size; omega)).trans fD
    · rw [hZZZ]
      exact block6R (put6R g1)
    · rw [hZZZ]
      unfold put6 put4of6
      exact (((((((((hw6.setCell (by simp; omega) _).setCell (by simp; omega) _).setCell (by simp; omega) _).setCell (by simp; omega) _).setCell (by simp) _).setCell (by simp) _).setCell (by simp) _).setCell (by simp) _).setCell (by simp) _).setCell (by simp) _
  have hlT1 : w.heap.size ≤ loT := by omega
  have hlX1 : w.heap.size ≤ loX := by omega
  clear hZZZ HN4 HX5 hlT hlX hw5 hnT hnX e0 e1 e2 eD fD f1 f2 hb6 p2 p3 p4 p5 yf zf hw6 hz5 hgD4
  go_wp2_with fail
  rw [HEND.out.1]
  obtain ⟨_, h1, h2, h4, h5, h6⟩ := HEND.out
  exact ret_res (b := w.heap.size + 1) rfl h2.1 ⟨gD, gT, gX, loT, hiT, loX, hiX, rfl, h1, h4, h5, hlT1, hlX1, h6⟩

set_option maxRecDepth 100000 in
theorem opened_res {H : Type} {enc : TypeId × Value → H} {W : World} {base : Nat} {sp : Nat → Bool} {held : Bool} (n : Nat) (cs : List Value) (x : DataW H × List MemPlace) (h : DataW.trod enc Tryz.prog W base sp held n 92 cs = some x) : ∃ (d : Nat) (rn : ByteArray) (vD : Value) (ds : List Dg) (nm : ByteArray) (bad : Bool) (vT vX : Value) (ts xs : List (ByteArray × Ty)), cs = [.string rn, vD, .string nm, .bool bad, vT, vX] ∧ rn.size ≤ maxLen ∧ DiAt W vD ds ∧ ds.length ≤ maxLen ∧ (∀ e ∈ ds, (-9223372036854775808 ≤ e.1 ∧ e.1 ≤ 9223372036854775807) ∧ e.2.size ≤ maxLen) ∧ nm.size ≤ maxLen ∧ EnvAt W d vT ts ∧ EnvAt W d vX xs ∧ ts.length ≤ maxLen ∧ xs.length ≤ maxLen := by
  have c6 : Tryz.prog.cellsOf 92 = 6 := by kernel_rfl
  have c4 : Tryz.prog.cellsOf 90 = 4 := by kernel_rfl
  have cst : Tryz.prog.cellsOf 9 = 1 := by kernel_rfl
  have cd : Tryz.prog.cellsOf 87 = 1 := by kernel_rfl
  obtain ⟨ys, m, rfl, rfl, hl, hxl, hf⟩ := DataW.trod_struct Tryz.underlying92 h
  rw [c6] at hl
  have hxl3 : ys.length = 3 := hxl
  match cs, hl, ys, hxl3 with
  | [v0, v1, v2, v3, v4, v5], _, [y0, y1, y2], _ =>
    have e0 : DataW.trod enc Tryz.prog W base sp held m 9 (List.take (Tryz.prog.cellsOf 9) [v0, v1, v2, v3, v4, v5]) = some y0 := hf 0 _ rfl
    rw [cst] at e0
    have f0 : DataW.trod enc Tryz.prog W base sp held m 9 [v0] = some y0 := e0
    have e1 : DataW.trod enc Tryz.prog W base sp held m 87 (List.take (Tryz.prog.cellsOf 87) [v1, v2, v3, v4, v5]) = some y1 := hf 1 _ rfl
    rw [cd] at e1
    have f1 : DataW.trod enc Tryz.prog W base sp held m 87 [v1] = some y1 := e1
    have e2 : DataW.trod enc Tryz.prog W base sp held m 90 (List.take (Tryz.prog.cellsOf 90) [v2, v3, v4, v5]) = some y2 := hf 2 _ rfl
    rw [c4] at e2
    have f2 : DataW.trod enc Tryz.prog W base sp held m 90 [v2, v3, v4, v5] = some y2 := e2
    obtain ⟨rn, hrn, _, hrs⟩ := DataW.trod_string Tryz.underlying9 f0
    obtain rfl : v0 = .string rn := by simpa using hrn
    obtain ⟨ds, hds, hdl, hdc⟩ := opened_dgs m _ _ f1
    obtain ⟨d, nm, bad, vT, vX, ts, xs, hcs, hns, hT, hX, hlT, hlX⟩ := opened_sum m _ _ f2
    obtain ⟨rfl, rfl, rfl, rfl⟩ : v2 = .string nm ∧ v3 = .bool bad ∧ v4 = vT ∧ v5 = vX := by simpa using hcs
    exact ⟨d, rn, v1, ds, nm, bad, v4, v5, ts, xs, rfl, hrs, hds, hdl, hdc, hns, hT, hX, hlT, hlX⟩

end Go.Proofs.YtikoacgfnojoeaaGreatDoor

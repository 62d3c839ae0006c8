/-
 The walks of the laws' own helpers szSummary, toSummary and eqSummary; a summary that is handed in, opened.
-/
import Derived.Test.YtbojmbeopnlmiaaGreatDoorSuI
import Derived.Laws.BytesArg
namespace Go.Proofs.YtbojmbeopnlmiaaGreatDoor
open Go.ChangeShapes Go.WideShapes Go.ChangeAt Go.RowKit
def sumBulk (n : Nat) (nm : ByteArray) (ts xs : List (ByteArray × Ty)) : Nat := nm.size + envBulk n ts + envBulk n xs
theorem block4R {W : World} {b : Nat} {x0 x1 x2 x3 : Value} {t : TypeId} (h : W.heap[b]? = some (.cells #[x0, x1, x2, x3] t (0, 0))) : (W.cell? ⟨b, 0, none⟩ = some x0 ∧ W.cell? ⟨b, 1, none⟩ = some x1 ∧ W.cell? ⟨b, 2, none⟩ = some x2 ∧ W.cell? ⟨b, 3, none⟩ = some x3) ∧ ∀ j, W.frozen? ⟨b, j, none⟩ = false := by
 refine ⟨⟨?_, ?_, ?_, ?_⟩, fun j => frozen_of_row W b j _ _ h⟩
 ·rw [cell_of_row W b 0 _ _ (0, 0) h]; rfl
 ·rw [cell_of_row W b 1 _ _ (0, 0) h]; rfl
 ·rw [cell_of_row W b 2 _ _ (0, 0) h]; rfl
 ·rw [cell_of_row W b 3 _ _ (0, 0) h]; rfl
set_option maxHeartbeats 1600000 in
set_option maxRecDepth 100000 in
theorem lawsSzSum (n : Nat) (nm : ByteArray) (bad : Bool) (vT vX : Value) (ts xs : List (ByteArray × Ty)) (w : World) (hT : EnvAt w n vT ts) (hX : EnvAt w n vX xs) (hns : nm.size ≤ maxLen) (hlT : ts.length ≤ maxLen) (hlX : xs.length ≤ maxLen) :
  Calls Tryz.prog 11 #[.agg #[.string nm, .bool bad, vT, vX], .int .i64 1048576] w fun e w' => e = .returned (.int .i64 (leftOf (sumBulk n nm ts xs) 1048576)) ∧ Below w.heap.size w w' := by
 obtain ⟨aT, cT, rfl, _⟩ := envOpen hT
 obtain ⟨aX, cX, rfl, _⟩ := envOpen hX
 have hB1 : Below w.heap.size w (w.alloc (.cells #[.string nm, .bool bad, .slice aT ts.length cT, .slice aX xs.length cX] 36)) := (Below.refl _ _).alloc (Nat.le_refl _) _
 have hzA : w.heap.size < (w.alloc (.cells #[.string nm, .bool bad, .slice aT ts.length cT, .slice aX xs.length cX] 36)).heap.size := by simp
 have hbx : (w.alloc (.cells #[.string nm, .bool bad, .slice aT ts.length cT, .slice aX xs.length cX] 36)).heap[w.heap.size]? = some (.cells #[.string nm, .bool bad, .slice aT ts.length cT, .slice aX xs.length cX] 36 (0, 0)) := (MapKept.heap_alloc w _).1
 have HCT : Hid (∀ (left : Int) (wx : World), 0 ≤ left → left ≤ 1048576 → Below w.heap.size w wx → Calls Tryz.prog 29 #[.slice aT ts.length cT, .int .i64 left] wx fun e w' => e = .returned (.int .i64 (leftOf (envBulk n ts) left)) ∧ Below wx.heap.size wx w') := fun left wx h0 h1 hx => lawsSzEnv n _ ts left wx (hT.below hx) hlT h0 h1
 have HCX : Hid (∀ (left : Int) (wx : World), 0 ≤ left → left ≤ 1048576 → Below w.heap.size w wx → Calls Tryz.prog 29 #[.slice aX xs.length cX, .int .i64 left] wx fun e w' => e = .returned (.int .i64 (leftOf (envBulk n xs) left)) ∧ Below wx.heap.size wx w') := fun left wx h0 h1 hx => lawsSzEnv n _ xs left wx (hX.below hx) hlX h0 h1
 obtain ⟨RR, hRR⟩ : ∃ RR, RR = leftOf (sumBulk n nm ts xs) 1048576 := ⟨_, rfl⟩
 rw [← hRR]
 unfold leftOf sumBulk at hRR
 unfold maxLen at hns
 have HR : Hid (type_of% hRR) := hRR
 clear hRR hT hX hlT hlX
 generalize envBulk n ts = bt at *
 generalize envBulk n xs = bx at *
 by_cases d1 : (1048576 : Int) - (nm.size : Int) < 0
 ·have HN : Hid (RR = -1) := by
   show _ = _
   rw [HR.out, if_neg (by omega)]
  clear HR HCT HCX hbx
  go_enter Tryz.func11, Tryz.ntmps11
  go_wp2_with fail
  go_ret
  exact ⟨by rw [HN.out]; rfl, hB1⟩
 ·obtain ⟨l1, hl1⟩ : ∃ l1 : Int, l1 = 1048576 - (nm.size : Int) := ⟨_, rfl⟩
  have HL1 : Hid (type_of% hl1) := hl1
  have HC1 := HCT.out (1048576 - (nm.size : Int)) _ (by omega) (by omega) hB1
  by_cases d2 : (bt : Int) ≤ 1048576 - (nm.size : Int)
  ·have e2 : leftOf bt (1048576 - (nm.size : Int)) = 1048576 - (nm.size : Int) - bt := if_pos d2
   rw [e2] at HC1
   have HC2 : Hid (type_of% HC1) := HC1
   have hn2 : ¬ (1048576 - (nm.size : Int) - (bt : Int) < 0) := by omega
   clear e2 HC1 HL1 hl1
   by_cases d3 : (bx : Int) ≤ 1048576 - (nm.size : Int) - bt
   ·have e3 : leftOf bx (1048576 - (nm.size : Int) - bt) = 1048576 - (nm.size : Int) - bt - bx := if_pos d3
    have HN : Hid (RR = 1048576 - (nm.size : Int) - bt - bx) := by
     show _ = _
     rw [HR.out, if_pos (by omega)]
     omega
    have hn3 : ¬ (1048576 - (nm.size : Int) - (bt : Int) - (bx : Int) < 0) := by omega
    have HC3 : Hid (∀ wx, Below w.heap.size w wx → Calls Tryz.prog 29 #[.slice aX xs.length cX, .int .i64 (1048576 - (nm.size : Int) - bt)] wx fun e w' => e = .returned (.int .i64 (1048576 - (nm.size : Int) - bt - bx)) ∧ Below wx.heap.size wx w') := fun wx hx => by
     have := HCX.out (1048576 - (nm.size : Int) - bt) wx (by omega) (by omega) hx
     rw [e3] at this
     exact this
    clear e3 HR HCT HCX
    go_enter Tryz.func11, Tryz.ntmps11
    go_wp2_with fail
    refine HC2.out.mono ?_
    rintro e w2 ⟨rfl, hb2⟩
    have hw2 := hB1.trans (hb2.mono hB1.size)
    obtain ⟨⟨_, _, _, q3⟩, _⟩ := block4R ((hb2.block _ hzA).trans hbx)
    go_wp2_with fail
    refine (HC3.out _ hw2).mono ?_
    rintro e w3 ⟨rfl, hb3⟩
    go_wp2_with fail
    go_ret
    exact ⟨by rw [HN.out]; rfl, hw2.trans (hb3.mono hw2.size)⟩
   ·have e3 : leftOf bx (1048576 - (nm.size : Int) - bt) = -1 := if_neg d3
    have HN : Hid (RR = -1) := by
     show _ = _
     rw [HR.out, if_neg (by omega)]
    have HC3 : Hid (∀ wx, Below w.heap.size w wx → Calls Tryz.prog 29 #[.slice aX xs.length cX, .int .i64 (1048576 - (nm.size : Int) - bt)] wx fun e w' => e = .returned (.int .i64 (-1)) ∧ Below wx.heap.size wx w') := fun wx hx => by
     have := HCX.out (1048576 - (nm.size : Int) - bt) wx (by omega) (by omega) hx
     rw [e3] at this
     exact this
    clear e3 HR HCT HCX
    go_enter Tryz.func11, Tryz.ntmps11
    go_wp2_with fail
    refine HC2.out.mono ?_
    rintro e w2 ⟨rfl, hb2⟩
    have hw2 := hB1.trans (hb2.mono hB1.size)
    obtain ⟨⟨_, _, _, q3⟩, _⟩ := block4R ((hb2.block _ hzA).trans hbx)
    go_wp2_with fail
    refine (HC3.out _ hw2).mono ?_
    rintro e w3 ⟨rfl, hb3⟩
    go_wp2_with fail
    go_ret
    exact ⟨by rw [HN.out]; rfl, hw2.trans (hb3.mono hw2.size)⟩
  ·have e2 : leftOf bt (1048576 - (nm.size : Int)) = -1 := if_neg d2
   rw [e2] at HC1
   have HC2 : Hid (type_of% HC1) := HC1
   have HN : Hid (RR = -1) := by
    show _ = _
    rw [HR.out, if_neg (by omega)]
   clear e2 HC1 HL1 hl1 HR HCT HCX hbx
   go_enter Tryz.func11, Tryz.ntmps11
   go_wp2_with fail
   refine HC2.out.mono ?_
   rintro e w2 ⟨rfl, hb2⟩
   go_wp2_with fail
   go_ret
   exact ⟨by rw [HN.out]; rfl, hB1.trans (hb2.mono hB1.size)⟩
set_option maxHeartbeats 800000 in
set_option maxRecDepth 100000 in
theorem lawsEqSum (n : Nat) (nm : ByteArray) (bad : Bool) (vT vX uT uX : Value) (ts xs : List (ByteArray × Ty)) (w : World) (hT : EnvAt w n vT ts) (hX : EnvAt w n vX xs) (gT : EnvAt w n uT ts) (gX : EnvAt w n uX xs) (hbT : envBulk n ts ≤ 1048576) (hbX : envBulk n xs ≤ 1048576) :
  Calls Tryz.prog 15 #[.agg #[.string nm, .bool bad, vT, vX], .agg #[.string nm, .bool bad, uT, uX]] w fun e w' => e = .returned (.bool true) ∧ Below w.heap.size w w' := by
 obtain ⟨aT, cT, rfl, _⟩ := envOpen hT
 obtain ⟨aX, cX, rfl, _⟩ := envOpen hX
 obtain ⟨bT, dT, rfl, _⟩ := envOpen gT
 obtain ⟨bX, dX, rfl, _⟩ := envOpen gX
 have hB2 : Below w.heap.size w ((w.alloc (.cells #[.string nm, .bool bad, .slice aT ts.length cT, .slice aX xs.length cX] 41)).alloc (.cells #[.string nm, .bool bad, .slice bT ts.length dT, .slice bX xs.length dX] 41)) := ((Below.refl _ _).alloc (Nat.le_refl _) _).alloc (by simp) _
 have h1 : ((w.alloc (.cells #[.string nm, .bool bad, .slice aT ts.length cT, .slice aX xs.length cX] 41)).alloc (.cells #[.string nm, .bool bad, .slice bT ts.length dT, .slice bX xs.length dX] 41)).heap[w.heap.size]? = some (.cells #[.string nm, .bool bad, .slice aT ts.length cT, .slice aX xs.length cX] 41 (0, 0)) := ((MapKept.heap_alloc (w.alloc _) _).2 _ (by simp)).trans (MapKept.heap_alloc w _).1
 have h2 : ((w.alloc (.cells #[.string nm, .bool bad, .slice aT ts.length cT, .slice aX xs.length cX] 41)).alloc (.cells #[.string nm, .bool bad, .slice bT ts.length dT, .slice bX xs.length dX] 41)).heap[w.heap.size + 1]? = some (.cells #[.string nm, .bool bad, .slice bT ts.length dT, .slice bX xs.length dX] 41 (0, 0)) := by
  have := (MapKept.heap_alloc (w.alloc (.cells #[.string nm, .bool bad, .slice aT ts.length cT, .slice aX xs.length cX] 41)) (.cells #[.string nm, .bool bad, .slice bT ts.length dT, .slice bX xs.length dX] 41)).1
  simpa using this
 have HT : Hid (∀ wx, Below w.heap.size w wx → Calls Tryz.prog 35 #[.slice aT ts.length cT, .slice bT ts.length dT] wx fun e w' => e = .returned (.bool true) ∧ Below wx.heap.size wx w') := fun wx hx => lawsEqEnv n _ _ ts wx (hT.below hx) (gT.below hx) hbT
 have HX : Hid (∀ wx, Below w.heap.size w wx → Calls Tryz.prog 35 #[.slice aX xs.length cX, .slice bX xs.length dX] wx fun e w' => e = .returned (.bool true) ∧ Below wx.heap.size wx w') := fun wx hx => lawsEqEnv n _ _ xs wx (hX.below hx) (gX.below hx) hbX
 have hbb : (bad != bad) = false := by cases bad <;> rfl
 have hzz : w.heap.size + 1 < ((w.alloc (.cells #[.string nm, .bool bad, .slice aT ts.length cT, .slice aX xs.length cX] 41)).alloc (.cells #[.string nm, .bool bad, .slice bT ts.length dT, .slice bX xs.length dX] 41)).heap.size := by simp
 clear hT hX gT gX
 go_enter Tryz.func15, Tryz.ntmps15
 go_wp2_with fail
 refine (HT.out _ hB2).mono ?_
 rintro e w2 ⟨rfl, hb2⟩
 have hw2 := hB2.trans (hb2.mono hB2.size)
 obtain ⟨⟨_, _, _, q3⟩, _⟩ := block4R ((hb2.block _ (by omega)).trans h1)
 obtain ⟨⟨_, _, _, r3⟩, _⟩ := block4R ((hb2.block _ hzz).trans h2)
 clear h1 h2 hzz
 go_wp2_with fail
 refine (HX.out _ hw2).mono ?_
 rintro e w3 ⟨rfl, hb3⟩
 go_wp2_with fail
 go_ret
 exact ⟨rfl, hw2.trans (hb3.mono hw2.size)⟩
theorem ret_sum {R : Ending → World → Prop} {W : World} {tmps : Array Value} {b : Nat} {x0 x1 x2 x3 : Value} (hp : tmps[2]?.getD undef = .pointer (some ⟨b, 0, none⟩))
  (h : W.cell? ⟨b, 0, none⟩ = some x0 ∧ W.cell? ⟨b, 1, none⟩ = some x1 ∧ W.cell? ⟨b, 2, none⟩ = some x2 ∧ W.cell? ⟨b, 3, none⟩ = some x3) (hR : R (.returned (.agg #[x0, x1, x2, x3])) W) :
  bodyPost Tryz.prog Tryz.f13 R .ret { tmps := tmps, defers := [] } W := by
 obtain ⟨h0, h1, h2, h3⟩ := h
 refine bodyPost_ret (v := .agg #[x0, x1, x2, x3]) ?_ rfl hR
 simp [results, Tryz.results13, go_sem, hp, h0, h1, h2, h3]
theorem put4R {w0 : World} {b : Nat} {z0 z1 z2 z3 x0 x1 x2 x3 : Value} {t : TypeId} (h : w0.heap[b]? = some (.cells #[z0, z1, z2, z3] t (0, 0))) : ((((w0.setCell ⟨b, 0, none⟩ x0).setCell ⟨b, 1, none⟩ x1).setCell ⟨b, 2, none⟩ x2).setCell ⟨b, 3, none⟩ x3).heap[b]? = some (.cells #[x0, x1, x2, x3] t (0, 0)) :=
 heap_setCell_same _ b 3 _ _ x3 (heap_setCell_same _ b 2 _ _ x2 (heap_setCell_same _ b 1 _ _ x1 (heap_setCell_same w0 b 0 _ _ x0 h)))
set_option maxHeartbeats 1600000 in
set_option maxRecDepth 100000 in
theorem lawsToSum (n : Nat) (nm : ByteArray) (bad : Bool) (vT vX : Value) (ts xs : List (ByteArray × Ty)) (w : World) (hT : EnvAt w n vT ts) (hX : EnvAt w n vX xs) (hbT : envBulk n ts ≤ 1048576) (hbX : envBulk n xs ≤ 1048576) :
  Calls Tryz.prog 13 #[.agg #[.string nm, .bool bad, vT, vX]] w fun e w' => ∃ gT gX loT hiT loX hiX, e = .returned (.agg #[.string nm, .bool bad, .slice (some ⟨gT, 0, none⟩) ts.length ts.length, .slice (some ⟨gX, 0, none⟩) xs.length xs.length]) ∧ NewEnv loT hiT w' n (.slice (some ⟨gT, 0, none⟩) ts.length ts.length) ts ∧ NewEnv loX hiX w' n (.slice (some ⟨gX, 0, none⟩) xs.length xs.length) xs ∧ w.heap.size ≤ loT ∧ w.heap.size ≤ loX ∧ Below w.heap.size w w' := by
 obtain ⟨aT, cT, rfl, _⟩ := envOpen hT
 obtain ⟨aX, cX, rfl, _⟩ := envOpen hX
 have hB3 : Below w.heap.size w (((w.alloc (.cells #[.string nm, .bool bad, .slice aT ts.length cT, .slice aX xs.length cX] 36)).alloc (.cells #[.string ⟨#[]⟩, .bool false, .slice none 0 0, .slice none 0 0] 41)).alloc (.cells #[.string nm, .bool bad, .slice none 0 0, .slice none 0 0] 41)) := (((Below.refl _ _).alloc (Nat.le_refl _) _).alloc (by simp) _).alloc (by simp; omega) _
 have h3 : (((w.alloc (.cells #[.string nm, .bool bad, .slice aT ts.length cT, .slice aX xs.length cX] 36)).alloc (.cells #[.string ⟨#[]⟩, .bool false, .slice none 0 0, .slice none 0 0] 41)).alloc (.cells #[.string nm, .bool bad, .slice none 0 0, .slice none 0 0] 41)).heap.size = w.heap.size + 1 + 1 + 1 := by simp
 have b0 : (((w.alloc (.cells #[.string nm, .bool bad, .slice aT ts.length cT, .slice aX xs.length cX] 36)).alloc (.cells #[.string ⟨#[]⟩, .bool false, .slice none 0 0, .slice none 0 0] 41)).alloc (.cells #[.string nm, .bool bad, .slice none 0 0, .slice none 0 0] 41)).heap[w.heap.size]? = some (.cells #[.string nm, .bool bad, .slice aT ts.length cT, .slice aX xs.length cX] 36 (0, 0)) := ((MapKept.heap_alloc _ _).2 _ (by simp; omega)).trans (((MapKept.heap_alloc _ _).2 _ (by simp)).trans (MapKept.heap_alloc w _).1)
 have b1 : (((w.alloc (.cells #[.string nm, .bool bad, .slice aT ts.length cT, .slice aX xs.length cX] 36)).alloc (.cells #[.string ⟨#[]⟩, .bool false, .slice none 0 0, .slice none 0 0] 41)).alloc (.cells #[.string nm, .bool bad, .slice none 0 0, .slice none 0 0] 41)).heap[w.heap.size + 1]? = some (.cells #[.string ⟨#[]⟩, .bool false, .slice none 0 0, .slice none 0 0] 41 (0, 0)) := by
  refine ((MapKept.heap_alloc _ _).2 _ (by simp)).trans ?_
  have := (MapKept.heap_alloc (w.alloc (.cells #[.string nm, .bool bad, .slice aT ts.length cT, .slice aX xs.length cX] 36)) (.cells #[.string ⟨#[]⟩, .bool false, .slice none 0 0, .slice none 0 0] 41)).1
  simpa using this
 have b2 : (((w.alloc (.cells #[.string nm, .bool bad, .slice aT ts.length cT, .slice aX xs.length cX] 36)).alloc (.cells #[.string ⟨#[]⟩, .bool false, .slice none 0 0, .slice none 0 0] 41)).alloc (.cells #[.string nm, .bool bad, .slice none 0 0, .slice none 0 0] 41)).heap[w.heap.size + 1 + 1]? = some (.cells #[.string nm, .bool bad, .slice none 0 0, .slice none 0 0] 41 (0, 0)) := by
  have := (MapKept.heap_alloc ((w.alloc (.cells #[.string nm, .bool bad, .slice aT ts.length cT, .slice aX xs.length cX] 36)).alloc (.cells #[.string ⟨#[]⟩, .bool false, .slice none 0 0, .slice none 0 0] 41)) (.cells #[.string nm, .bool bad, .slice none 0 0, .slice none 0 0] 41)).1
  simpa using this
 have HT : Hid (type_of% (lawsToEnv n _ ts _ (hT.below hB3) hbT)) := lawsToEnv n _ ts _ (hT.below hB3) hbT
 have HX : Hid (∀ wx, Below w.heap.size w wx → Calls Tryz.prog 33 #[.slice aX xs.length cX] wx fun e w' => e = .returned (.slice (some ⟨wx.heap.size, 0, none⟩) xs.length xs.length) ∧ NewEnv wx.heap.size w'.heap.size w' n (.slice (some ⟨wx.heap.size, 0, none⟩) xs.length xs.length) xs ∧ Below wx.heap.size wx w') := fun wx hx => lawsToEnv n _ xs wx (hX.below hx) hbX
 clear hT hX
 go_enter Tryz.func13, Tryz.ntmps13
 go_wp2_with fail
 generalize (((w.alloc (.cells #[.string nm, .bool bad, .slice aT ts.length cT, .slice aX xs.length cX] 36)).alloc (.cells #[.string ⟨#[]⟩, .bool false, .slice none 0 0, .slice none 0 0] 41)).alloc (.cells #[.string nm, .bool bad, .slice none 0 0, .slice none 0 0] 41)) = W3 at *
 refine HT.out.mono ?_
 rintro e w4 ⟨rfl, hn4, hb4⟩
 have hw4 : Below w.heap.size w w4 := hB3.trans (hb4.mono (by omega))
 have hz4 := hb4.size
 have c0 := (hb4.block (w.heap.size) (by omega)).trans b0
 have c1 := (hb4.block (w.heap.size + 1) (by omega)).trans b1
 have c2 := (hb4.block (w.heap.size + 1 + 1) (by omega)).trans b2
 obtain ⟨⟨_, _, q2, _⟩, qf⟩ := block4R c2
 have qf2 := qf 2
 obtain ⟨gT, hgT⟩ : ∃ gT, gT = W3.heap.size := ⟨_, rfl⟩
 rw [← hgT] at hn4 ⊢
 have hgT3 : w.heap.size + 1 + 1 < gT := by omega
 have hn5 := hn4.step (w' := w4.setCell ⟨w.heap.size + 1 + 1, 2, none⟩ (.slice (some ⟨gT, 0, none⟩) ts.length ts.length)) (Above.set _ _ _ (by simpa using hgT3))
 have hw5 : Below w.heap.size w (w4.setCell ⟨w.heap.size + 1 + 1, 2, none⟩ (.slice (some ⟨gT, 0, none⟩) ts.length ts.length)) := hw4.setCell (by simp; omega) _
 have e0 : (w4.setCell ⟨w.heap.size + 1 + 1, 2, none⟩ (.slice (some ⟨gT, 0, none⟩) ts.length ts.length)).heap[w.heap.size]? = _ := (Below.heap_setCell _ _ _ _ (by simp <;> omega)).trans c0
 have e1 : (w4.setCell ⟨w.heap.size + 1 + 1, 2, none⟩ (.slice (some ⟨gT, 0, none⟩) ts.length ts.length)).heap[w.heap.size + 1]? = _ := (Below.heap_setCell _ _ _ _ (by simp <;> omega)).trans c1
 have e2 : (w4.setCell ⟨w.heap.size + 1 + 1, 2, none⟩ (.slice (some ⟨gT, 0, none⟩) ts.length ts.length)).heap[w.heap.size + 1 + 1]? = some (.cells #[.string nm, .bool bad, .slice (some ⟨gT, 0, none⟩) ts.length ts.length, .slice none 0 0] 41 (0, 0)) := heap_setCell_same _ _ 2 _ _ _ c2
 have hz5 : gT ≤ (w4.setCell ⟨w.heap.size + 1 + 1, 2, none⟩ (.slice (some ⟨gT, 0, none⟩) ts.length ts.length)).heap.size := by simp; omega
 obtain ⟨⟨_, _, _, p3⟩, _⟩ := block4R e0
 have HN5 : Hid (type_of% hn5) := hn5
 have HX5 : Hid (type_of% (HX.out _ hw5)) := HX.out _ hw5
 clear HT HX hn4 hn5 b0 b1 b2 hB3 h3 hb4 hw4 c0 c1 c2 hgT hz4
 go_wp2_with fail
 generalize (w4.setCell ⟨w.heap.size + 1 + 1, 2, none⟩ (.slice (some ⟨gT, 0, none⟩) ts.length ts.length)) = W5 at *
 clear q2 qf qf2
 refine HX5.out.mono ?_
 rintro e w6 ⟨rfl, hn6, hb6⟩
 have hw6 := hw5.trans (hb6.mono hw5.size)
 have HNT := HN5.out.step (Above.of_below hb6)
 have f1 := (hb6.block (w.heap.size + 1) (by omega)).trans e1
 have f2 := (hb6.block (w.heap.size + 1 + 1) (by omega)).trans e2
 obtain ⟨⟨y0, y1, y2, y3⟩, yf⟩ := block4R f2
 obtain ⟨⟨z0, z1, z2, z3⟩, zf⟩ := block4R f1
 have yf3 := yf 3
 have zf0 := zf 0
 have zf1 := zf 1
 have zf2 := zf 2
 have zf3 := zf 3
 obtain ⟨gX, hgX⟩ : ∃ gX, gX = W5.heap.size := ⟨_, rfl⟩
 rw [← hgX] at hn6 ⊢
 have hgX3 : w.heap.size + 1 + 1 < gX := by omega
 have HEND : Hid (∀ Z : World, (Z.heap[w.heap.size + 1]? = some (.cells #[.string nm, .bool bad, .slice (some ⟨gT, 0, none⟩) ts.length ts.length, .slice (some ⟨gX, 0, none⟩) xs.length xs.length] 41 (0, 0))) → Above (w.heap.size + 1 + 1 + 1) w6 Z → Below w.heap.size w Z → NewEnv gT w4.heap.size Z n (.slice (some ⟨gT, 0, none⟩) ts.length ts.length) ts ∧ NewEnv gX w6.heap.size Z n (.slice (some ⟨gX, 0, none⟩) xs.length xs.length) xs) := fun Z _ ha _ => ⟨HNT.step (ha.mono (by omega)), hn6.step (ha.mono (by omega))⟩
 clear HN5 HX5 hw5 hn6 HNT e0 e1 e2 hb6 p3 yf zf hgX
 go_wp2_with fail
 have g1 : (w6.setCell ⟨w.heap.size + 1 + 1, 3, none⟩ (.slice (some ⟨gX, 0, none⟩) xs.length xs.length)).heap[w.heap.size + 1]? = _ := (Below.heap_setCell _ _ _ _ (by simp)).trans f1
 have g2 := put4R g1 (x0 := .string nm) (x1 := .bool bad) (x2 := .slice (some ⟨gT, 0, none⟩) ts.length ts.length) (x3 := .slice (some ⟨gX, 0, none⟩) xs.length xs.length)
 have hab : Above (w.heap.size + 1 + 1 + 1) w6 (((((w6.setCell ⟨w.heap.size + 1 + 1, 3, none⟩ (.slice (some ⟨gX, 0, none⟩) xs.length xs.length)).setCell ⟨w.heap.size + 1, 0, none⟩ (.string nm)).setCell ⟨w.heap.size + 1, 1, none⟩ (.bool bad)).setCell ⟨w.heap.size + 1, 2, none⟩ (.slice (some ⟨gT, 0, none⟩) ts.length ts.length)).setCell ⟨w.heap.size + 1, 3, none⟩ (.slice (some ⟨gX, 0, none⟩) xs.length xs.length)) :=
  ((((Above.set _ _ _ (by simp)).trans (Above.set _ _ _ (by simp))).trans (Above.set _ _ _ (by simp))).trans (Above.set _ _ _ (by simp))).trans (Above.set _ _ _ (by simp))
 have hbw : Below w.heap.size w (((((w6.setCell ⟨w.heap.size + 1 + 1, 3, none⟩ (.slice (some ⟨gX, 0, none⟩) xs.length xs.length)).setCell ⟨w.heap.size + 1, 0, none⟩ (.string nm)).setCell ⟨w.heap.size + 1, 1, none⟩ (.bool bad)).setCell ⟨w.heap.size + 1, 2, none⟩ (.slice (some ⟨gT, 0, none⟩) ts.length ts.length)).setCell ⟨w.heap.size + 1, 3, none⟩ (.slice (some ⟨gX, 0, none⟩) xs.length xs.length)) := ((((hw6.setCell (by simp; omega) _).setCell (by simp) _).setCell (by simp) _).setCell (by simp) _).setCell (by simp) _
 obtain ⟨n1, n2⟩ := HEND.out _ g2 hab hbw
 exact ret_sum (b := w.heap.size + 1) rfl (block4R g2).1 ⟨gT, gX, gT, _, gX, _, rfl, n1, n2, by omega, by omega, hbw⟩
set_option maxRecDepth 100000 in
theorem opened_sum {H : Type} {enc : TypeId × Value → H} {W : World} {base : Nat} {sp : Nat → Bool} {held : Bool} (n : Nat) (cs : List Value) (x : DataW H × List MemPlace) (h : DataW.trod enc Tryz.prog W base sp held n 36 cs = some x) : ∃ (d : Nat) (nm : ByteArray) (bad : Bool) (vT vX : Value) (ts xs : List (ByteArray × Ty)), cs = [.string nm, .bool bad, vT, vX] ∧ nm.size ≤ maxLen ∧ EnvAt W d vT ts ∧ EnvAt W d vX xs ∧ ts.length ≤ maxLen ∧ xs.length ≤ maxLen := by
 have c4 : Tryz.prog.cellsOf 36 = 4 := by kernel_rfl
 have cst : Tryz.prog.cellsOf 9 = 1 := by kernel_rfl
 have cb : Tryz.prog.cellsOf 4 = 1 := by kernel_rfl
 have cn : Tryz.prog.cellsOf 34 = 1 := by kernel_rfl
 obtain ⟨ys, m, rfl, rfl, hl, hxl, hf⟩ := DataW.trod_struct Tryz.underlying36 h
 rw [c4] at hl
 have hxl4 : ys.length = 4 := hxl
 match cs, hl, ys, hxl4 with
 | [v0, v1, v2, v3], _, [y0, y1, y2, y3], _ =>
  have e0 : DataW.trod enc Tryz.prog W base sp held m 9 (List.take (Tryz.prog.cellsOf 9) [v0, v1, v2, v3]) = some y0 := hf 0 _ rfl
  rw [cst] at e0
  have f0 : DataW.trod enc Tryz.prog W base sp held m 9 [v0] = some y0 := e0
  have e1 : DataW.trod enc Tryz.prog W base sp held m 4 (List.take (Tryz.prog.cellsOf 4) [v1, v2, v3]) = some y1 := hf 1 _ rfl
  rw [cb] at e1
  have f1 : DataW.trod enc Tryz.prog W base sp held m 4 [v1] = some y1 := e1
  have e2 : DataW.trod enc Tryz.prog W base sp held m 34 (List.take (Tryz.prog.cellsOf 34) [v2, v3]) = some y2 := hf 2 _ rfl
  rw [cn] at e2
  have f2 : DataW.trod enc Tryz.prog W base sp held m 34 [v2] = some y2 := e2
  have e3 : DataW.trod enc Tryz.prog W base sp held m 34 (List.take (Tryz.prog.cellsOf 34) [v3]) = some y3 := hf 3 _ rfl
  rw [cn] at e3
  have f3 : DataW.trod enc Tryz.prog W base sp held m 34 [v3] = some y3 := e3
  obtain ⟨nm, hnm, _, hns⟩ := DataW.trod_string Tryz.underlying9 f0
  obtain rfl : v0 = .string nm := by simpa using hnm
  obtain ⟨bad, hbd, _⟩ := DataW.trod_bool Tryz.underlying4 f1
  obtain rfl : v1 = .bool bad := by simpa using hbd
  obtain ⟨d1, ts, hts, hlt⟩ := opened_env m _ _ f2
  obtain ⟨d2, xs, hxs, hlx⟩ := opened_env m _ _ f3
  exact ⟨max d1 d2, nm, bad, v2, v3, ts, xs, rfl, hns, hts.deep (Nat.le_max_left _ _), hxs.deep (Nat.le_max_right _ _), hlt, hlx⟩
end Go.Proofs.YtbojmbeopnlmiaaGreatDoor
namespace Go.Proofs.YtbojmbeopnlmiaaGreatDoor
open Go.RowKit
theorem slice_ownM {w : World} {B e z : Nat} {v : Value} {n : Nat} {xs : List Value} (h : w.ownsRow B e z v n xs) : ∃ a cap, v = .slice a n cap := by
 rcases h.2 with ⟨rfl, h0⟩ | ⟨g, cap, cur, hv, _⟩
 ·exact ⟨none, 0, by rw [h0]⟩
 ·exact ⟨_, cap, hv⟩
end Go.Proofs.YtbojmbeopnlmiaaGreatDoor

/-
  The walks of the laws' own helpers szResult, toResult and eqResult; a result that is handed in, opened.
  Lists of results: the walks of the laws' own helpers szResult (from any number on), szResultS, eqResultS, toResultS.
-/
import Derived.Test.YtllbfbllkefjeaaGreatDoorSuD
import Derived.Test.YtllbfbllkefjeaaGreatDoorDiD
import Derived.Test.YtllbfbllkefjeaaGreatDoorFmD
namespace Go.Proofs.YtllbfbllkefjeaaGreatDoor
open Go.ChangeShapes Go.WideShapes Go.ChangeAt Go.RowKit

/-- how much a result holds -/
def resBulk (n : Nat) (rn : ByteArray) (ds : List Dg) (nm : ByteArray) (ts xs : List (ByteArray × Ty)) : Nat := rn.size + dgsBulk ds + sumBulk n nm ts xs
theorem leftD_yes {b : Nat} {l : Int} (h : (b : Int) ≤ l) : leftD b l = l - b := if_pos h
theorem leftD_no {b : Nat} {l : Int} (h : ¬ (b : Int) ≤ l) : leftD b l = -1 := if_neg h
theorem leftOf_yes {b : Nat} {l : Int} (h : (b : Int) ≤ l) : leftOf b l = l - b := if_pos h
theorem leftOf_no {b : Nat} {l : Int} (h : ¬ (b : Int) ≤ l) : leftOf b l = -1 := if_neg h

/-- what a box of six cells holds -/
def SixR (W : World) (b : Nat) (x0 x1 x2 x3 x4 x5 : Value) : Prop := (W.cell? ⟨b, 0, none⟩ = some x0 ∧ W.cell? ⟨b, 1, none⟩ = some x1 ∧ W.cell? ⟨b, 2, none⟩ = some x2 ∧ W.cell? ⟨b, 3, none⟩ = some x3 ∧ W.cell? ⟨b, 4, none⟩ = some x4 ∧ W.cell? ⟨b, 5, none⟩ = some x5) ∧ ∀ j, W.frozen? ⟨b, j, none⟩ = false
theorem block6R {W : World} {b : Nat} {x0 x1 x2 x3 x4 x5 : Value} {t : TypeId} (h : W.heap[b]? = some (.cells #[x0, x1, x2, x3, x4, x5] t (0, 0))) : SixR W b x0 x1 x2 x3 x4 x5 := by
  refine ⟨⟨?_, ?_, ?_, ?_, ?_, ?_⟩, fun j => frozen_of_row W b j _ _ h⟩
  · rw [cell_of_row W b 0 _ _ (0, 0) h]; rfl
  · rw [cell_of_row W b 1 _ _ (0, 0) h]; rfl
  · rw [cell_of_row W b 2 _ _ (0, 0) h]; rfl
  · rw [cell_of_row W b 3 _ _ (0, 0) h]; rfl
  · rw [cell_of_row W b 4 _ _ (0, 0) h]; rfl
  · rw [cell_of_row W b 5 _ _ (0, 0) h]; rfl
theorem sixR_new {w wx : World} {b : Nat} {x0 x1 x2 x3 x4 x5 : Value} {t : TypeId} (h : b = w.heap.size) (hb : Below (b + 1) (w.alloc (.cells #[x0, x1, x2, x3, x4, x5] t)) wx) : SixR wx b x0 x1 x2 x3 x4 x5 := by
  subst h
  exact block6R ((hb.block _ (by omega)).trans (MapKept.heap_alloc w _).1)

set_option maxHeartbeats 800000 in
set_option maxRecDepth 100000 in
theorem lawsEqRes (n : Nat) (rn : ByteArray) (vD uD : Value) (ds : List Dg) (nm : ByteArray) (bad : Bool) (vT vX uT uX : Value) (ts xs : List (ByteArray × Ty)) (w : World) (hD : DiAt w vD ds) (gD : DiAt w uD ds) (hT : EnvAt w n vT ts) (hX : EnvAt w n vX xs) (gT : EnvAt w n uT ts) (gX : EnvAt w n uX xs) (hld : ds.length ≤ 1048577) (hbT : envBulk n ts ≤ 1048576) (hbX : envBulk n xs ≤ 1048576) :
    Calls Tryz.prog 61 #[.agg #[.string rn, vD, .string nm, .bool bad, vT, vX], .agg #[.string rn, uD, .string nm, .bool bad, uT, uX]] w fun e w' => e = .returned (.bool true) ∧ Below w.heap.size w w' := by
  have HD : Hid (∀ wx, Below w.heap.size w wx → Calls Tryz.prog 89 #[vD, uD] wx fun e w' => e = .returned (.bool true) ∧ Below wx.heap.size wx w') := fun wx hx => lawsEqDgs _ _ ds wx (hD.below hx) (gD.below hx) hld
  have HS : Hid (∀ wx, Below w.heap.size w wx → Calls Tryz.prog 90 #[.agg #[.string nm, .bool bad, vT, vX], .agg #[.string nm, .bool bad, uT, uX]] wx fun e w' => e = .returned (.bool true) ∧ Below wx.heap.size wx w') := fun wx hx => lawsEqSum n nm bad _ _ _ _ ts xs wx (hT.below hx) (hX.below hx) (gT.below hx) (gX.below hx) hbT hbX
  obtain ⟨aD, cD, rfl, _⟩ := diOpen hD
  obtain ⟨bD, eD, rfl, _⟩ := diOpen gD
  obtain ⟨aT, cT, rfl, _⟩ := envOpen hT
  obtain ⟨aX, cX, rfl, _⟩ := envOpen hX
  obtain ⟨bT, dT, rfl, _⟩ := envOpen gT
  obtain ⟨bX, dX, rfl, _⟩ := envOpen gX
  have hB2 : Below w.heap.size w ((w.alloc (.cells #[.string rn, .slice aD ds.length cD, .string nm, .bool bad, .slice aT ts.length cT, .slice aX xs.length cX] 111)).alloc (.cells #[.string rn, .slice bD ds.length eD, .string nm, .bool bad, .slice bT ts.length dT, .slice bX xs.length dX] 111)) := ((Below.refl _ _).alloc (Nat.le_refl _) _).alloc (by simp) _
  have h1 : ((w.alloc (.cells #[.string rn, .slice aD ds.length cD, .string nm, .bool bad, .slice aT ts.length cT, .slice aX xs.length cX] 111)).alloc (.cells #[.string rn, .slice bD ds.length eD, .string nm, .bool bad, .slice bT ts.length dT, .slice bX xs.length dX] 111)).heap[w.heap.size]? = some (.cells #[.string rn, .slice aD ds.length cD, .string nm, .bool bad, .slice aT ts.length cT, .slice aX xs.length cX] 111 (0, 0)) := ((MapKept.heap_alloc (w.alloc _) _).2 _ (by simp)).trans (MapKept.heap_alloc w _).1
  have h2 : ((w.alloc (.cells #[.string rn, .slice aD ds.length cD, .string nm, .bool bad, .slice aT ts.length cT, .slice aX xs.length cX] 111)).alloc (.cells #[.string rn, .slice bD ds.length eD, .string nm, .bool bad, .slice bT ts.length dT, .slice bX xs.length dX] 111)).heap[w.heap.size + 1]? = some (.cells #[.string rn, .slice bD ds.length eD, .string nm, .bool bad, .slice bT ts.length dT, .slice bX xs.length dX] 111 (0, 0)) := by
    have := (MapKept.heap_alloc (w.alloc (.cells #[.string rn, .slice aD ds.length cD, .string nm, .bool bad, .slice aT ts.length cT, .slice aX xs.length cX] 111)) (.cells #[.string rn, .slice bD ds.length eD, .string nm, .bool bad, .slice bT ts.length dT, .slice bX xs.length dX] 111)).1
    simpa using this
  have hzz : w.heap.size + 1 < ((w.alloc (.cells #[.string rn, .slice aD ds.length cD, .string nm, .bool bad, .slice aT ts.length cT, .slice aX xs.length cX] 111)).alloc (.cells #[.string rn, .slice bD ds.length eD, .string nm, .bool bad, .slice bT ts.length dT, .slice bX xs.length dX] 111)).heap.size := by simp
  clear hD gD hT hX gT gX
  go_enter Tryz.func61, Tryz.ntmps61
  go_wp2_with fail
  refine (HD.out _ hB2).mono ?_
  rintro e w2 ⟨rfl, hb2⟩
  have hw2 := hB2.trans (hb2.mono hB2.size)
  obtain ⟨⟨_, _, q2, q3, q4, q5⟩, _⟩ := block6R ((hb2.block _ (by omega)).trans h1)
  obtain ⟨⟨_, _, r2, r3, r4, r5⟩, _⟩ := block6R ((hb2.block _ hzz).trans h2)
  clear h1 h2 hzz
  go_wp2_with fail
  refine (HS.out _ hw2).mono ?_
  rintro e w3 ⟨rfl, hb3⟩
  go_wp2_with fail
  go_ret
  exact ⟨rfl, hw2.trans (hb3.mono hw2.size)⟩

/-- six cells put into a box -/
def put6 (w0 : World) (b : Nat) (x0 x1 x2 x3 x4 x5 : Value) : World := (((((w0.setCell ⟨b, 0, none⟩ x0).setCell ⟨b, 1, none⟩ x1).setCell ⟨b, 2, none⟩ x2).setCell ⟨b, 3, none⟩ x3).setCell ⟨b, 4, none⟩ x4).setCell ⟨b, 5, none⟩ x5
theorem put6R {w0 : World} {b : Nat} {z0 z1 z2 z3 z4 z5 x0 x1 x2 x3 x4 x5 : Value} {t : TypeId} (h : w0.heap[b]? = some (.cells #[z0, z1, z2, z3, z4, z5] t (0, 0))) : (put6 w0 b x0 x1 x2 x3 x4 x5).heap[b]? = some (.cells #[x0, x1, x2, x3, x4, x5] t (0, 0)) :=
  heap_setCell_same _ b 5 _ _ x5 (heap_setCell_same _ b 4 _ _ x4 (heap_setCell_same _ b 3 _ _ x3 (heap_setCell_same _ b 2 _ _ x2 (heap_setCell_same _ b 1 _ _ x1 (heap_setCell_same w0 b 0 _ _ x0 h)))))
/-- four cells put into a box behind the first two -/
def put4of6 (w0 : World) (b : Nat) (x2 x3 x4 x5 : Value) : World := (((w0.setCell ⟨b, 2, none⟩ x2).setCell ⟨b, 3, none⟩ x3).setCell ⟨b, 4, none⟩ x4).setCell ⟨b, 5, none⟩ x5
theorem put4of6_above (w0 : World) (b B : Nat) (x2 x3 x4 x5 : Value) (h : b < B) : Above B w0 (put4of6 w0 b x2 x3 x4 x5) := (((Above.set _ _ _ h).trans (Above.set _ _ _ h)).trans (Above.set _ _ _ h)).trans (Above.set _ _ _ h)
theorem put6_above (w0 : World) (b B : Nat) (x0 x1 x2 x3 x4 x5 : Value) (h : b < B) : Above B w0 (put6 w0 b x0 x1 x2 x3 x4 x5) := (((((Above.set _ _ _ h).trans (Above.set _ _ _ h)).trans (Above.set _ _ _ h)).trans (Above.set _ _ _ h)).trans (Above.set _ _ _ h)).trans (Above.set _ _ _ h)
theorem put4of6_other (w0 : World) (b g : Nat) (x2 x3 x4 x5 : Value) (h : g ≠ b) : (put4of6 w0 b x2 x3 x4 x5).heap[g]? = w0.heap[g]? := by
  have hb : ∀ (W : World) (o : Nat) (x : Value), (W.setCell ⟨b, o, none⟩ x).heap[g]? = W.heap[g]? := fun W o x => Below.heap_setCell _ _ _ _ (by simpa using h)
  unfold put4of6
  rw [hb, hb, hb, hb]

end Go.Proofs.YtllbfbllkefjeaaGreatDoor

namespace Go.Proofs.YtllbfbllkefjeaaGreatDoor
open Go.ChangeShapes Go.WideShapes Go.ChangeAt Go.RowKit

/-- a result, its lists by their slices -/
structure ResV where
  rn : ByteArray
  vD : Value
  ds : List Dg
  nm : ByteArray
  bad : Bool
  vT : Value
  ts : List (ByteArray × Ty)
  vX : Value
  xs : List (ByteArray × Ty)
def resF (e : ResV) : List Value := [.string e.rn, e.vD, .string e.nm, .bool e.bad, e.vT, e.vX]
def ResV.at (w : World) (n : Nat) (e : ResV) : Prop := DiAt w e.vD e.ds ∧ EnvAt w n e.vT e.ts ∧ EnvAt w n e.vX e.xs
theorem ResV.at.below {w w' : World} {n : Nat} {e : ResV} (h : e.at w n) (hb : Below w.heap.size w w') : e.at w' n := ⟨h.1.below hb, h.2.1.below hb, h.2.2.below hb⟩
/-- none of it is greater than memory -/
def ResV.few (e : ResV) : Prop := e.rn.size ≤ maxLen ∧ e.ds.length ≤ maxLen ∧ (∀ d ∈ e.ds, (-9223372036854775808 ≤ d.1 ∧ d.1 ≤ 9223372036854775807) ∧ d.2.size ≤ maxLen) ∧ e.nm.size ≤ maxLen ∧ e.ts.length ≤ maxLen ∧ e.xs.length ≤ maxLen
def resB (n : Nat) (e : ResV) : Nat := resBulk n e.rn e.ds e.nm e.ts e.xs
def ResAt (w : World) (n : Nat) (v : Value) (es : List ResV) : Prop := RowA 6 resF w v es ∧ ∀ e ∈ es, e.at w n
theorem ResAt.below {w w' : World} {n : Nat} {v : Value} {es : List ResV} (h : ResAt w n v es) (hb : Below w.heap.size w w') : ResAt w' n v es := ⟨h.1.below hb, fun e he => (h.2 e he).below hb⟩
/-- two results that hold the same -/
def ResV.same (a b : ResV) : Prop := a.rn = b.rn ∧ a.ds = b.ds ∧ a.nm = b.nm ∧ a.bad = b.bad ∧ a.ts = b.ts ∧ a.xs = b.xs
def SameRs (es es' : List ResV) : Prop := es.length = es'.length ∧ ∀ j (h : j < es.length) (h' : j < es'.length), es[j].same es'[j]
theorem SameRs.refl (es : List ResV) : SameRs es es := ⟨rfl, fun _ _ _ => ⟨rfl, rfl, rfl, rfl, rfl, rfl⟩⟩
theorem ResV.same.symm {a b : ResV} (h : a.same b) : b.same a := ⟨h.1.symm, h.2.1.symm, h.2.2.1.symm, h.2.2.2.1.symm, h.2.2.2.2.1.symm, h.2.2.2.2.2.symm⟩
theorem ResV.same.trans {a b c : ResV} (h : a.same b) (k : b.same c) : a.same c := ⟨h.1.trans k.1, h.2.1.trans k.2.1, h.2.2.1.trans k.2.2.1, h.2.2.2.1.trans k.2.2.2.1, h.2.2.2.2.1.trans k.2.2.2.2.1, h.2.2.2.2.2.trans k.2.2.2.2.2⟩
theorem SameRs.symm {a b : List ResV} (h : SameRs a b) : SameRs b a := ⟨h.1.symm, fun j h1 h2 => (h.2 j h2 h1).symm⟩
theorem SameRs.trans {a b c : List ResV} (h : SameRs a b) (k : SameRs b c) : SameRs a c := ⟨h.1.trans k.1, fun j h1 h2 => (h.2 j h1 (by rw [← h.1]; exact h1)).trans (k.2 j (by rw [← h.1]; exact h1) h2)⟩

theorem resB_parts {n : Nat} {e : ResV} (h : resB n e ≤ 1048576) : e.ds.length ≤ 1048576 ∧ envBulk n e.ts ≤ 1048576 ∧ envBulk n e.xs ≤ 1048576 ∧ e.rn.size ≤ 1048576 ∧ dgsBulk e.ds ≤ 1048576 := by
  unfold resB resBulk sumBulk at h
  have : e.ds.length ≤ dgsBulk e.ds := by unfold dgsBulk; omega
  refine ⟨by omega, by omega, by omega, by omega, by omega⟩

set_option maxHeartbeats 1600000 in
set_option maxRecDepth 100000 in
theorem lawsEqRess (n : Nat) (va vb : Value) (es es' : List ResV) (w : World) (hA : ResAt w n va es) (hB : ResAt w n vb es') (hS : SameRs es es') (hkl : es.length ≤ 1048577) (hbk : ∀ e ∈ es, resB n e ≤ 1048576) :
    Calls Tryz.prog 30 #[va, vb] w fun e w' => e = .returned (.bool true) ∧ Below w.heap.size w w' := by
  obtain ⟨a, capa, rfl, ha⟩ := rowA_open hA.1
  obtain ⟨b, capb, rfl, hb⟩ := rowA_open hB.1
  have HEA : Hid (type_of% ha) := ha
  have HEB : Hid (type_of% hb) := hb
  have HAA : Hid (type_of% hA.2) := hA.2
  have HAB : Hid (type_of% hB.2) := hB.2
  have HSS : Hid (type_of% hS) := hS
  have HBK : Hid (type_of% hbk) := hbk
  rw [← hS.1]
  clear hA hB ha hb hS hbk
  go_enter Tryz.func30, Tryz.ntmps30
  go_wp2_with fail
  go_loopw [5] (fun i wr => ∃ k : Nat, k ≤ es.length ∧ i = .int .i64 k ∧ Below w.heap.size w wr) (fun i _ => es.length - (intOf i).toNat)
  case atStart => exact ⟨0, Nat.zero_le _, rfl, Below.refl _ _⟩
  case round =>
    obtain ⟨k, hk, rfl, hbe⟩ := hrel
    by_cases hlt : k < es.length
    · have hlt' : k < es'.length := by rw [← HSS.out.1]; exact hlt
      obtain ⟨ba, oa, rfl, hba, p⟩ := HEA.out k hlt
      obtain ⟨bb, ob, rfl, hbb, q⟩ := HEB.out k hlt'
      have A0 := (hbe.cell (p := ⟨ba, oa + k * 6 + 0, none⟩) hba).trans (p 0 _ rfl)
      have A1 := (hbe.cell (p := ⟨ba, oa + k * 6 + 1, none⟩) hba).trans (p 1 _ rfl)
      have A2 := (hbe.cell (p := ⟨ba, oa + k * 6 + 2, none⟩) hba).trans (p 2 _ rfl)
      have A3 := (hbe.cell (p := ⟨ba, oa + k * 6 + 3, none⟩) hba).trans (p 3 _ rfl)
      have A4 := (hbe.cell (p := ⟨ba, oa + k * 6 + 4, none⟩) hba).trans (p 4 _ rfl)
      have A5 := (hbe.cell (p := ⟨ba, oa + k * 6 + 5, none⟩) hba).trans (p 5 _ rfl)
      have B0 := (hbe.cell (p := ⟨bb, ob + k * 6 + 0, none⟩) hbb).trans (q 0 _ rfl)
      have B1 := (hbe.cell (p := ⟨bb, ob + k * 6 + 1, none⟩) hbb).trans (q 1 _ rfl)
      have B2 := (hbe.cell (p := ⟨bb, ob + k * 6 + 2, none⟩) hbb).trans (q 2 _ rfl)
      have B3 := (hbe.cell (p := ⟨bb, ob + k * 6 + 3, none⟩) hbb).trans (q 3 _ rfl)
      have B4 := (hbe.cell (p := ⟨bb, ob + k * 6 + 4, none⟩) hbb).trans (q 4 _ rfl)
      have B5 := (hbe.cell (p := ⟨bb, ob + k * 6 + 5, none⟩) hbb).trans (q 5 _ rfl)
      rw [Nat.add_zero] at A0 B0
      obtain ⟨s1, s2, s3, s4, s5, s6⟩ := HSS.out.2 k hlt hlt'
      obtain ⟨m1, m2, m3, m4, m5⟩ := resB_parts (HBK.out es[k] (List.getElem_mem hlt))
      have HC : Hid (∀ wx : World, Below wr.heap.size wr wx → Calls Tryz.prog 61 #[.agg #[.string es[k].rn, es[k].vD, .string es[k].nm, .bool es[k].bad, es[k].vT, es[k].vX], .agg #[.string es'[k].rn, es'[k].vD, .string es'[k].nm, .bool es'[k].bad, es'[k].vT, es'[k].vX]] wx fun e w' => e = .returned (.bool true) ∧ Below wx.heap.size wx w') := fun wx hx => by
        obtain ⟨a1, a2, a3⟩ := ((HAA.out es[k] (List.getElem_mem hlt)).below hbe).below hx
        obtain ⟨b1, b2, b3⟩ := ((HAB.out es'[k] (List.getElem_mem hlt')).below hbe).below hx
        rw [← s2] at b1
        rw [← s5] at b2
        rw [← s6] at b3
        rw [← s1, ← s3, ← s4]
        exact lawsEqRes n _ _ _ _ _ _ _ _ _ _ _ _ wx a1 b1 a2 a3 b2 b3 (by omega) m2 m3
      clear p q HEA HEB HAA HAB HSS HBK s1 s2 s3 s4 s5 s6 m1 m2 m3 m4 m5
      generalize es[k].rn = xa at *
      generalize es[k].vD = xb at *
      generalize es[k].nm = xc at *
      generalize es[k].bad = xd at *
      generalize es[k].vT = xe at *
      generalize es[k].vX = xf at *
      have hk0 : (0 : Int) ≤ k := by omega
      have hk1 : (k : Int) < es.length := by omega
      go_wp2_with fail
      go_region_with (go_at_call 61; refine (HC.out _ (Below.refl _ _).drew).mono ?_; rintro e w2 ⟨rfl, hb2⟩)
      all_goals
        go_wp2_with fail
        go_roundw
        case rel => exact ⟨k + 1, by omega, by go_num, hbe.trans ((((Below.refl _ _).drew).trans hb2).mono hbe.size)⟩
        case measure => simp [intOf]; omega
    · clear HEA HEB HAA HAB HSS HBK
      go_wp2_with fail
      go_ret
      exact ⟨rfl, hbe⟩

/-- a result whose lists lie in memory behind the block -/
def NewRes (g0 : Nat) (w : World) (n : Nat) (e : ResV) : Prop := w.ownsRow (g0 + 1) 165 2 e.vD e.ds.length (dgV e.ds) ∧ (∃ lo hi, g0 < lo ∧ NewEnv lo hi w n e.vT e.ts) ∧ ∃ lo hi, g0 < lo ∧ NewEnv lo hi w n e.vX e.xs
theorem NewRes.step {g0 : Nat} {w w' : World} {n : Nat} {e : ResV} (h : NewRes g0 w n e) (ha : Above (g0 + 1) w w') : NewRes g0 w' n e := by
  obtain ⟨h1, ⟨lo, hi, h2, h3⟩, lo', hi', h4, h5⟩ := h
  refine ⟨dgLow h1 (Nat.le_refl _) fun g hg => ?_, ⟨lo, hi, h2, h3.step (ha.mono h2)⟩, lo', hi', h4, h5.step (ha.mono h4)⟩
  have := h1.lt g hg
  exact ha.2 g this.1 this.2
theorem NewRes.at {g0 : Nat} {w : World} {n : Nat} {e : ResV} (h : NewRes g0 w n e) : e.at w n := by
  obtain ⟨h1, ⟨lo, hi, h2, h3⟩, lo', hi', h4, h5⟩ := h
  exact ⟨dgRow h1, h3.at, h5.at⟩

theorem Tryz.infoResult : (Tryz.prog.info? 111).map (fun i => (i.zero, i.size, i.bytes)) = some (some (.agg #[.string ⟨#[]⟩, .slice none 0 0, .string ⟨#[]⟩, .bool false, .slice none 0 0, .slice none 0 0]), 6, 112) := by kernel_rfl

end Go.Proofs.YtllbfbllkefjeaaGreatDoor

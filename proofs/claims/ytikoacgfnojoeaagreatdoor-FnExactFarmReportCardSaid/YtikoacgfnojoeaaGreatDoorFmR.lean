/-
  Lists of results: the walks of the laws' own helpers szResult (from any number on), szResultS, eqResultS, toResultS.
-/
import Derived.Test.YtikoacgfnojoeaaGreatDoorRsR
import Derived.Test.YtikoacgfnojoeaaGreatDoorFmD
namespace Go.Proofs.YtikoacgfnojoeaaGreatDoor
open Go.ChangeShapes Go.WideShapes Go.ChangeAt Go.RowKit

set_option maxHeartbeats 1600000 in
set_option maxRecDepth 100000 in
theorem lawsSzResL (left : Int) (n : Nat) (rn : ByteArray) (vD : Value) (ds : List Dg) (nm : ByteArray) (bad : Bool) (vT vX : Value) (ts xs : List (ByteArray × Ty)) (w : World) (hD : DiAt w vD ds) (hT : EnvAt w n vT ts) (hX : EnvAt w n vX xs) (hrn : rn.size ≤ maxLen) (hld : ds.length ≤ maxLen) (hsd : ∀ e ∈ ds, e.2.size ≤ maxLen) (hns : nm.size ≤ maxLen) (hlT : ts.length ≤ maxLen) (hlX : xs.length ≤ maxLen) (hl0 : 0 ≤ left) (hl1 : left ≤ 1048576) :
    Calls Tryz.prog 33 #[.agg #[.string rn, vD, .string nm, .bool bad, vT, vX], .int .i64 left] w fun e w' => e = .returned (.int .i64 (leftA (resBulk n rn ds nm ts xs) left)) ∧ Below w.heap.size w w' := by
  obtain ⟨aD, cD, rfl, _⟩ := diOpen hD
  obtain ⟨aT, cT, rfl, _⟩ := envOpen hT
  obtain ⟨aX, cX, rfl, _⟩ := envOpen hX
  have hB1 : Below w.heap.size w (w.alloc (.cells #[.string rn, .slice aD ds.length cD, .string nm, .bool bad, .slice aT ts.length cT, .slice aX xs.length cX] 92)) := (Below.refl _ _).alloc (Nat.le_refl _) _
  have HA : Hid (∀ wx : World, Below (w.heap.size + 1) (w.alloc (.cells #[.string rn, .slice aD ds.length cD, .string nm, .bool bad, .slice aT ts.length cT, .slice aX xs.length cX] 92)) wx → SixR wx w.heap.size (.string rn) (.slice aD ds.length cD) (.string nm) (.bool bad) (.slice aT ts.length cT) (.slice aX xs.length cX)) := fun wx hx => sixR_new rfl hx
  have HD : Hid (∀ (lf : Int) (wx : World), 0 ≤ lf → lf ≤ 1048576 → Below w.heap.size w wx → Calls Tryz.prog 54 #[.slice aD ds.length cD, .int .i64 lf] wx fun e w' => e = .returned (.int .i64 (leftD (dgsBulk ds) lf)) ∧ Below wx.heap.size wx w') := fun lf wx h0 h1 hx => lawsSzDgs _ ds lf wx (hD.below hx) hld hsd h0 h1
  have HS : Hid (∀ (lf : Int) (wx : World), 0 ≤ lf → lf ≤ 1048576 → Below w.heap.size w wx → Calls Tryz.prog 55 #[.agg #[.string nm, .bool bad, .slice aT ts.length cT, .slice aX xs.length cX], .int .i64 lf] wx fun e w' => e = .returned (.int .i64 (leftOf (sumBulk n nm ts xs) lf)) ∧ Below wx.heap.size wx w') := fun lf wx h0 h1 hx => lawsSzSumL lf n nm bad _ _ ts xs wx (hT.below hx) (hX.below hx) hns hlT hlX h0 h1
  obtain ⟨RR, hRR⟩ : ∃ RR, RR = leftA (resBulk n rn ds nm ts xs) left := ⟨_, rfl⟩
  rw [← hRR]
  unfold leftA resBulk at hRR
  unfold maxLen at hrn
  have HR : Hid (type_of% hRR) := hRR
  clear hRR hD hT hX hld hlT hlX hsd hns
  generalize dgsBulk ds = bd at *
  generalize sumBulk n nm ts xs = bs at *
  by_cases d1 : left - (rn.size : Int) < 0
  · have HN : Hid (RR = -1) := by
      show _ = _
      rw [HR.out, if_neg (by omega)]
    clear HR HD HS HA
    go_enter Tryz.func33, Tryz.ntmps33
    go_wp2_with fail
    go_ret
    exact ⟨by rw [HN.out]; rfl, hB1⟩
  · have HC1 := HD.out (left - (rn.size : Int)) _ (by omega) (by omega) hB1
    by_cases d2 : (bd : Int) ≤ left - (rn.size : Int)
    · rw [leftD_yes d2] at HC1
      have HC2 : Hid (type_of% HC1) := HC1
      have hn2 : ¬ (left - (rn.size : Int) - (bd : Int) < 0) := by omega
      clear HC1
      by_cases d3 : (bs : Int) ≤ left - (rn.size : Int) - bd
      · have HN : Hid (RR = left - (rn.size : Int) - bd - bs) := by
          show _ = _
          rw [HR.out, if_pos (by omega)]
          omega
        have hn3 : ¬ (left - (rn.size : Int) - (bd : Int) - (bs : Int) < 0) := by omega
        have HC3 : Hid (∀ wx, Below w.heap.size w wx → Calls Tryz.prog 55 #[.agg #[.string nm, .bool bad, .slice aT ts.length cT, .slice aX xs.length cX], .int .i64 (left - (rn.size : Int) - bd)] wx fun e w' => e = .returned (.int .i64 (left - (rn.size : Int) - bd - bs)) ∧ Below wx.heap.size wx w') := fun wx hx => by
          have := HS.out (left - (rn.size : Int) - bd) wx (by omega) (by omega) hx
          rw [leftOf_yes d3] at this
          exact this
        clear HR HD HS
        go_enter Tryz.func33, Tryz.ntmps33
        go_wp2_with fail
        refine HC2.out.mono ?_
        rintro e w2 ⟨rfl, hb2⟩
        have hw2 := hB1.trans (hb2.mono hB1.size)
        obtain ⟨⟨_, _, q2, q3, q4, q5⟩, _⟩ := HA.out w2 (hb2.mono (by simp))
        go_wp2_with fail
        refine (HC3.out _ hw2).mono ?_
        rintro e w3 ⟨rfl, hb3⟩
        go_wp2_with fail
        go_ret
        exact ⟨by rw [HN.out]; rfl, hw2.trans (hb3.mono hw2.size)⟩
      · have HN : Hid (RR = -1) := by
          show _ = _
          rw [HR.out, if_neg (by omega)]
        have HC3 : Hid (∀ wx, Below w.heap.size w wx → Calls Tryz.prog 55 #[.agg #[.string nm, .bool bad, .slice aT ts.length cT, .slice aX xs.length cX], .int .i64 (left - (rn.size : Int) - bd)] wx fun e w' => e = .returned (.int .i64 (-1)) ∧ Below wx.heap.size wx w') := fun wx hx => by
          have := HS.out (left - (rn.size : Int) - bd) wx (by omega) (by omega) hx
          rw [leftOf_no d3] at this
          exact this
        clear HR HD HS
        go_enter Tryz.func33, Tryz.ntmps33
        go_wp2_with fail
        refine HC2.out.mono ?_
        rintro e w2 ⟨rfl, hb2⟩
        have hw2 := hB1.trans (hb2.mono hB1.size)
        obtain ⟨⟨_, _, q2, q3, q4, q5⟩, _⟩ := HA.out w2 (hb2.mono (by simp))
        go_wp2_with fail
        refine (HC3.out _ hw2).mono ?_
        rintro e w3 ⟨rfl, hb3⟩
        go_wp2_with fail
        go_ret
        exact ⟨by rw [HN.out]; rfl, hw2.trans (hb3.mono hw2.size)⟩
    · rw [leftD_no d2] at HC1
      have HC2 : Hid (type_of% HC1) := HC1
      have HN : Hid (RR = -1) := by
        show _ = _
        rw [HR.out, if_neg (by omega)]
      clear HC1 HR HD HS HA
      go_enter Tryz.func33, Tryz.ntmps33
      go_wp2_with fail
      refine HC2.out.mono ?_
      rintro e w2 ⟨rfl, hb2⟩
      go_wp2_with fail
      go_ret
      exact ⟨by rw [HN.out]; rfl, hB1.trans (hb2.mono hB1.size)⟩


/-- a result, its lists by their slices -/
structure ResV where
  rn : ByteArray
  vD : Value
  ds : List Dg
  nm : ByteArray
  bad : Bool
  vT : Value
  ts : List (ByteArray × Ty)
  vX : Value
  xs : List (ByteArray × Ty)
def resF (e : ResV) : List Value := [.string e.rn, e.vD, .string e.nm, .bool e.bad, e.vT, e.vX]
def ResV.at (w : World) (n : Nat) (e : ResV) : Prop := DiAt w e.vD e.ds ∧ EnvAt w n e.vT e.ts ∧ EnvAt w n e.vX e.xs
theorem ResV.at.below {w w' : World} {n : Nat} {e : ResV} (h : e.at w n) (hb : Below w.heap.size w w') : e.at w' n := ⟨h.1.below hb, h.2.1.below hb, h.2.2.below hb⟩
/-- none of it is greater than memory -/
def ResV.few (e : ResV) : Prop := e.rn.size ≤ maxLen ∧ e.ds.length ≤ maxLen ∧ (∀ d ∈ e.ds, (-9223372036854775808 ≤ d.1 ∧ d.1 ≤ 9223372036854775807) ∧ d.2.size ≤ maxLen) ∧ e.nm.size ≤ maxLen ∧ e.ts.length ≤ maxLen ∧ e.xs.length ≤ maxLen
def resB (n : Nat) (e : ResV) : Nat := resBulk n e.rn e.ds e.nm e.ts e.xs
def ResAt (w : World) (n : Nat) (v : Value) (es : List ResV) : Prop := RowA 6 resF w v es ∧ ∀ e ∈ es, e.at w n
theorem ResAt.below {w w' : World} {n : Nat} {v : Value} {es : List ResV} (h : ResAt w n v es) (hb : Below w.heap.size w w') : ResAt w' n v es := ⟨h.1.below hb, fun e he => (h.2 e he).below hb⟩
/-- two results that hold the same -/
def ResV.same (a b : ResV) : Prop := a.rn = b.rn ∧ a.ds = b.ds ∧ a.nm = b.nm ∧ a.bad = b.bad ∧ a.ts = b.ts ∧ a.xs = b.xs
def SameRs (es es' : List ResV) : Prop := es.length = es'.length ∧ ∀ j (h : j < es.length) (h' : j < es'.length), es[j].same es'[j]
theorem SameRs.refl (es : List ResV) : SameRs es es := ⟨rfl, fun _ _ _ => ⟨rfl, rfl, rfl, rfl, rfl, rfl⟩⟩
theorem ResV.same.symm {a b : ResV} (h : a.same b) : b.same a := ⟨h.1.symm, h.2.1.symm, h.2.2.1.symm, h.2.2.2.1.symm, h.2.2.2.2.1.symm, h.2.2.2.2.2.symm⟩
theorem ResV.same.trans {a b c : ResV} (h : a.same b) (k : b.same c) : a.same c := ⟨h.1.trans k.1, h.2.1.trans k.2.1, h.2.2.1.trans k.2.2.1, h.2.2.2.1.trans k.2.2.2.1, h.2.2.2.2.1.trans k.2.2.2.2.1, h.2.2.2.2.2.trans k.2.2.2.2.2⟩
theorem SameRs.symm {a b : List ResV} (h : SameRs a b) : SameRs b a := ⟨h.1.symm, fun j h1 h2 => (h.2 j h2 h1).symm⟩
theorem SameRs.trans {a b c : List ResV} (h : SameRs a b) (k : SameRs b c) : SameRs a c := ⟨h.1.trans k.1, fun j h1 h2 => (h.2 j h1 (by rw [← h.1]; exact h1)).trans (k.2 j (by rw [← h.1]; exact h1) h2)⟩

set_option maxHeartbeats 800000 in
set_option maxRecDepth 100000 in
theorem lawsSzRess (n : Nat) (v : Value) (es : List ResV) (left : Int) (w : World) (hrow : ResAt w n v es) (hkl : es.length ≤ maxLen) (hsz : ∀ e ∈ es, e.few) (h0 : 0 ≤ left) (h1 : left ≤ 1048576) :
    Calls Tryz.prog 12 #[v, .int .i64 left] w fun e w' => e = .returned (.int .i64 (leftA (bulkA (resB n) es) left)) ∧ Below w.heap.size w w' := by
  unfold maxLen at hkl
  obtain ⟨av, capv, rfl, hel⟩ := rowA_open hrow.1
  have HEL : Hid (type_of% hel) := hel
  have HSZ : Hid (type_of% hsz) := hsz
  have HAT : Hid (type_of% hrow.2) := hrow.2
  clear hrow hel hsz
  by_cases hneg : left - (es.length : Int) < 0
  · have HR : Hid (leftA (bulkA (resB n) es) left = -1) := if_neg (by unfold bulkA; omega)
    clear HEL HSZ HAT
    go_enter Tryz.func12, Tryz.ntmps12
    go_wp2_with fail
    go_ret
    exact ⟨by rw [HR.out]; rfl, Below.refl _ _⟩
  · go_enter Tryz.func12, Tryz.ntmps12
    go_wp2_with fail
    go_loopw [1, 5] (fun l i wr => ∃ k : Nat, k ≤ es.length ∧ i = .int .i64 k ∧ l = .int .i64 (left - es.length - (sumA (resB n) (es.take k) : Nat)) ∧ ((sumA (resB n) (es.take k) : Nat) : Int) ≤ left - es.length ∧ Below w.heap.size w wr) (fun _ i _ => es.length - (intOf i).toNat)
    case atStart => exact ⟨0, Nat.zero_le _, rfl, by simp [sumA], by simp [sumA]; omega, Below.refl _ _⟩
    case round =>
      obtain ⟨k, hk, rfl, rfl, hle, hbe⟩ := hrel
      by_cases hlt : k < es.length
      · obtain ⟨b, off, rfl, hb, q⟩ := HEL.out k hlt
        have HM : Hid (sumA (resB n) (es.take (k + 1)) = sumA (resB n) (es.take k) + resB n es[k]) := sumA_more _ es k hlt
        have HL : Hid (sumA (resB n) (es.take (k + 1)) ≤ sumA (resB n) es) := sumA_le _ es (k + 1)
        have c0 := (hbe.cell (p := ⟨b, off + k * 6 + 0, none⟩) hb).trans (q 0 _ rfl)
        have c1 := (hbe.cell (p := ⟨b, off + k * 6 + 1, none⟩) hb).trans (q 1 _ rfl)
        have c2 := (hbe.cell (p := ⟨b, off + k * 6 + 2, none⟩) hb).trans (q 2 _ rfl)
        have c3 := (hbe.cell (p := ⟨b, off + k * 6 + 3, none⟩) hb).trans (q 3 _ rfl)
        have c4 := (hbe.cell (p := ⟨b, off + k * 6 + 4, none⟩) hb).trans (q 4 _ rfl)
        have c5 := (hbe.cell (p := ⟨b, off + k * 6 + 5, none⟩) hb).trans (q 5 _ rfl)
        rw [Nat.add_zero] at c0
        generalize hS : sumA (resB n) (es.take k) = S at *
        obtain ⟨z1, z2, z3, z4, z5, z6⟩ := HSZ.out es[k] (List.getElem_mem hlt)
        obtain ⟨a1, a2, a3⟩ := (HAT.out es[k] (List.getElem_mem hlt)).below hbe
        have HC : Hid (Calls Tryz.prog 33 #[.agg #[.string es[k].rn, es[k].vD, .string es[k].nm, .bool es[k].bad, es[k].vT, es[k].vX], .int .i64 (left - es.length - (S : Nat))] wr fun e w' => e = .returned (.int .i64 (leftA (resB n es[k]) (left - es.length - (S : Nat)))) ∧ Below wr.heap.size wr w') := lawsSzResL _ n _ _ _ _ _ _ _ _ _ wr a1 a2 a3 z1 z2 (fun d hd => (z3 d hd).2) z4 z5 z6 (by omega) (by omega)
        clear hS q HEL HSZ HAT z1 z2 z3 z4 z5 z6 a1 a2 a3
        generalize resB n es[k] = bk at *
        generalize es[k].rn = xa at *
        generalize es[k].vD = xb at *
        generalize es[k].nm = xc at *
        generalize es[k].bad = xd at *
        generalize es[k].vT = xe at *
        generalize es[k].vX = xf at *
        by_cases hbk : ((S + bk : Nat) : Int) ≤ left - es.length
        · have e1 : leftA bk (left - es.length - (S : Nat)) = left - es.length - ((S + bk : Nat) : Int) := by
            unfold leftA
            rw [if_pos (by omega)]
            omega
          rw [e1] at HC
          have hnn : ¬ left - (es.length : Int) - ((S + bk : Nat) : Int) < 0 := by omega
          clear e1
          generalize hq : S + bk = Q at *
          have HQ : Hid (sumA (resB n) (es.take (k + 1)) = Q) := HM.out.trans rfl
          clear hq HM HL
          go_wp2_with fail
          refine HC.out.mono ?_
          rintro e w2 ⟨rfl, hb2⟩
          have hbe2 : Below w.heap.size w w2 := hbe.trans (hb2.mono hbe.size)
          go_wp2_with fail
          go_roundw
          case rel => exact ⟨k + 1, by omega, by go_num, by rw [HQ.out], by rw [HQ.out]; exact hbk, hbe2⟩
          case measure => simp [intOf]; omega
        · have e1 : leftA bk (left - es.length - (S : Nat)) = -1 := if_neg (by omega)
          rw [e1] at HC
          have HR : Hid (leftA (bulkA (resB n) es) left = -1) := if_neg (by
            have h1 := HM.out
            have h2 := HL.out
            unfold bulkA
            omega)
          clear e1 HM HL
          go_wp2_with fail
          refine HC.out.mono ?_
          rintro e w2 ⟨rfl, hb2⟩
          have hbe2 : Below w.heap.size w w2 := hbe.trans (hb2.mono hbe.size)
          go_wp2_with fail
          go_ret
          exact ⟨by rw [HR.out]; rfl, hbe2⟩
      · have hke : k = es.length := by omega
        subst hke
        rw [List.take_of_length_le (Nat.le_refl _)] at hle ⊢
        have HR : Hid (leftA (bulkA (resB n) es) left = left - es.length - (sumA (resB n) es : Nat)) := by
          show _ = _
          unfold leftA bulkA
          rw [if_pos (by omega)]
          omega
        generalize sumA (resB n) es = S at *
        clear HEL HSZ HAT
        go_wp2_with fail
        go_ret
        exact ⟨by rw [HR.out]; rfl, hbe⟩

theorem resB_parts {n : Nat} {e : ResV} (h : resB n e ≤ 1048576) : e.ds.length ≤ 1048576 ∧ envBulk n e.ts ≤ 1048576 ∧ envBulk n e.xs ≤ 1048576 ∧ e.rn.size ≤ 1048576 ∧ dgsBulk e.ds ≤ 1048576 := by
  unfold resB resBulk sumBulk at h
  have : e.ds.length ≤ dgsBulk e.ds := by unfold dgsBulk; omega
  refine ⟨by omega, by omega, by omega, by omega, by omega⟩

set_option maxHeartbeats 1600000 in
set_option maxRecDepth 100000 in
theorem lawsEqRess (n : Nat) (va vb : Value) (es es' : List ResV) (w : World) (hA : ResAt w n va es) (hB : ResAt w n vb es') (hS : SameRs es es') (hkl : es.length ≤ 1048577) (hbk : ∀ e ∈ es, resB n e ≤ 1048576) :
    Calls Tryz.prog 28 #[va, vb] w fun e w' => e = .returned (.bool true) ∧ Below w.heap.size w w' := by
  obtain ⟨a, capa, rfl, ha⟩ := rowA_open hA.1
  obtain ⟨b, capb, rfl, hb⟩ := rowA_open hB.1
  have HEA : Hid (type_of% ha) := ha
  have HEB : Hid (type_of% hb) := hb
  have HAA : Hid (type_of% hA.2) := hA.2
  have HAB : Hid (type_of% hB.2) := hB.2
  have HSS : Hid (type_of% hS) := hS
  have HBK : Hid (type_of% hbk) := hbk
  rw [← hS.1]
  clear hA hB ha hb hS hbk
  go_enter Tryz.func28, Tryz.ntmps28
  go_wp2_with fail
  go_loopw [5] (fun i wr => ∃ k : Nat, k ≤ es.length ∧ i = .int .i64 k ∧ Below w.heap.size w wr) (fun i _ => es.length - (intOf i).toNat)
  case atStart => exact ⟨0, Nat.zero_le _, rfl, Below.refl _ _⟩
  case round =>
    obtain ⟨k, hk, rfl, hbe⟩ := hrel
    by_cases hlt : k < es.length
    · have hlt' : k < es'.length := by rw [← HSS.out.1]; exact hlt
      obtain ⟨ba, oa, rfl, hba, p⟩ := HEA.out k hlt
      obtain ⟨bb, ob, rfl, hbb, q⟩ := HEB.out k hlt'
      have A0 := (hbe.cell (p := ⟨ba, oa + k * 6 + 0, none⟩) hba).trans (p 0 _ rfl)
      have A1 := (hbe.cell (p := ⟨ba, oa + k * 6 + 1, none⟩) hba).trans (p 1 _ rfl)
      have A2 := (hbe.cell (p := ⟨ba, oa + k * 6 + 2, none⟩) hba).trans (p 2 _ rfl)
      have A3 := (hbe.cell (p := ⟨ba, oa + k * 6 + 3, none⟩) hba).trans (p 3 _ rfl)
      have A4 := (hbe.cell (p := ⟨ba, oa + k * 6 + 4, none⟩) hba).trans (p 4 _ rfl)
      have A5 := (hbe.cell (p := ⟨ba, oa + k * 6 + 5, none⟩) hba).trans (p 5 _ rfl)
      have B0 := (hbe.cell (p := ⟨bb, ob + k * 6 + 0, none⟩) hbb).trans (q 0 _ rfl)
      have B1 := (hbe.cell (p := ⟨bb, ob + k * 6 + 1, none⟩) hbb).trans (q 1 _ rfl)
      have B2 := (hbe.cell (p := ⟨bb, ob + k * 6 + 2, none⟩) hbb).trans (q 2 _ rfl)
      have B3 := (hbe.cell (p := ⟨bb, ob + k * 6 + 3, none⟩) hbb).trans (q 3 _ rfl)
      have B4 := (hbe.cell (p := ⟨bb, ob + k * 6 + 4, none⟩) hbb).trans (q 4 _ rfl)
      have B5 := (hbe.cell (p := ⟨bb, ob + k * 6 + 5, none⟩) hbb).trans (q 5 _ rfl)
      rw [Nat.add_zero] at A0 B0
      obtain ⟨s1, s2, s3, s4, s5, s6⟩ := HSS.out.2 k hlt hlt'
      obtain ⟨m1, m2, m3, m4, m5⟩ := resB_parts (HBK.out es[k] (List.getElem_mem hlt))
      have HC : Hid (∀ wx : World, Below wr.heap.size wr wx → Calls Tryz.prog 51 #[.agg #[.string es[k].rn, es[k].vD, .string es[k].nm, .bool es[k].bad, es[k].vT, es[k].vX], .agg #[.string es'[k].rn, es'[k].vD, .string es'[k].nm, .bool es'[k].bad, es'[k].vT, es'[k].vX]] wx fun e w' => e = .returned (.bool true) ∧ Below wx.heap.size wx w') := fun wx hx => by
        obtain ⟨a1, a2, a3⟩ := ((HAA.out es[k] (List.getElem_mem hlt)).below hbe).below hx
        obtain ⟨b1, b2, b3⟩ := ((HAB.out es'[k] (List.getElem_mem hlt')).below hbe).below hx
        rw [← s2] at b1
        rw [← s5] at b2
        rw [← s6] at b3
        rw [← s1, ← s3, ← s4]
        exact lawsEqRes n _ _ _ _ _ _ _ _ _ _ _ _ wx a1 b1 a2 a3 b2 b3 (by omega) m2 m3
      clear p q HEA HEB HAA HAB HSS HBK s1 s2 s3 s4 s5 s6 m1 m2 m3 m4 m5
      generalize es[k].rn = xa at *
      generalize es[k].vD = xb at *
      generalize es[k].nm = xc at *
      generalize es[k].bad = xd at *
      generalize es[k].vT = xe at *
      generalize es[k].vX = xf at *
      have hk0 : (0 : Int) ≤ k := by omega
      have hk1 : (k : Int) < es.length := by omega
      go_wp2_with fail
      go_region_with (go_at_call 51; refine (HC.out _ (Below.refl _ _).drew).mono ?_; rintro e w2 ⟨rfl, hb2⟩)
      all_goals
        go_wp2_with fail
        go_roundw
        case rel => exact ⟨k + 1, by omega, by go_num, hbe.trans ((((Below.refl _ _).drew).trans hb2).mono hbe.size)⟩
        case measure => simp [intOf]; omega
    · clear HEA HEB HAA HAB HSS HBK
      go_wp2_with fail
      go_ret
      exact ⟨rfl, hbe⟩

/-- a result whose lists lie in memory behind the block -/
def NewRes (g0 : Nat) (w : World) (n : Nat) (e : ResV) : Prop := w.ownsRow (g0 + 1) 100 2 e.vD e.ds.length (dgV e.ds) ∧ (∃ lo hi, g0 < lo ∧ NewEnv lo hi w n e.vT e.ts) ∧ ∃ lo hi, g0 < lo ∧ NewEnv lo hi w n e.vX e.xs
theorem NewRes.step {g0 : Nat} {w w' : World} {n : Nat} {e : ResV} (h : NewRes g0 w n e) (ha : Above (g0 + 1) w w') : NewRes g0 w' n e := by
  obtain ⟨h1, ⟨lo, hi, h2, h3⟩, lo', hi', h4, h5⟩ := h
  refine ⟨dgLow h1 (Nat.le_refl _) fun g hg => ?_, ⟨lo, hi, h2, h3.step (ha.mono h2)⟩, lo', hi', h4, h5.step (ha.mono h4)⟩
  have := h1.lt g hg
  exact ha.2 g this.1 this.2
theorem NewRes.at {g0 : Nat} {w : World} {n : Nat} {e : ResV} (h : NewRes g0 w n e) : e.at w n := by
  obtain ⟨h1, ⟨lo, hi, h2, h3⟩, lo', hi', h4, h5⟩ := h
  exact ⟨dgRow h1, h3.at, h5.at⟩

theorem Tryz.infoResult : (Tryz.prog.info? 63).map (fun i => (i.zero, i.size, i.bytes)) = some (some (.agg #[.string ⟨#[]⟩, .slice none 0 0, .string ⟨#[]⟩, .bool false, .slice none 0 0, .slice none 0 0]), 6, 112) := by kernel_rfl

set_option maxHeartbeats 1600000 in
set_option maxRecDepth 100000 in
theorem lawsToRess (n : Nat) (v : Value) (es : List ResV) (w : World) (hrow : ResAt w n v es) (hlen : es.length ≤ 1048576) (hbk : ∀ e ∈ es, resB n e ≤ 1048576) :
    Calls Tryz.prog 20 #[v] w fun e w' => e = .returned (.slice (some ⟨w.heap.size, 0, none⟩) es.length es.length) ∧ (∃ es', SameRs es es' ∧ ∀ w3, Above w.heap.size w' w3 → ResAt w3 n (.slice (some ⟨w.heap.size, 0, none⟩) es.length es.length) es') ∧ Below w.heap.size w w' := by
  obtain ⟨i0, hi, hz0, hz1, hz2⟩ := info_parts Tryz.infoResult
  obtain ⟨a, capa, rfl, ha⟩ := rowA_open hrow.1
  have HEA : Hid (type_of% ha) := ha
  have HAT : Hid (type_of% hrow.2) := hrow.2
  have HBK : Hid (type_of% hbk) := hbk
  clear hrow ha hbk
  go_enter Tryz.func20, Tryz.ntmps20
  go_wp2_with (at_make; refine wpList_make_full _ rfl _ _ 37 rfl w.heap.size 63 i0 (.agg #[.string ⟨#[]⟩, .slice none 0 0, .string ⟨#[]⟩, .bool false, .slice none 0 0, .slice none 0 0]) 6 Tryz.underlying37 hi hz0 hz1 .i64 .i64 _ _ es.length rfl rfl rfl rfl (by rw [hz2]; omega) (by unfold maxLen; omega) (Nat.le_refl _) ?_)
  intro w1 hown hgrow
  have hB : Below w.heap.size w w1 := (Below.refl _ _).grown hgrow (Nat.le_refl _) (fun k hk => by cases hk)
  obtain ⟨X, hX⟩ : ∃ X, w1.ownsRow w.heap.size 63 6 (.slice (some ⟨w.heap.size, 0, none⟩) es.length es.length) es.length X := ⟨_, hown⟩
  have HX : Hid (type_of% hX) := hX
  clear hown hgrow hX
  go_wp2_with fail
  go_loopw [4] (fun i wr => ∃ (k : Nat) (X : List Value) (es' : List ResV), k ≤ es.length ∧ i = .int .i64 k ∧ wr.ownsRow w.heap.size 63 6 (.slice (some ⟨w.heap.size, 0, none⟩) es.length es.length) es.length X ∧ FillA 6 resF X es' ∧ es'.length = k ∧ (∀ j (h : j < es.length) (h' : j < es'.length), es[j].same es'[j]) ∧ (∀ e ∈ es', NewRes w.heap.size wr n e) ∧ Below w.heap.size w wr) (fun i _ => es.length - (intOf i).toNat)
  case atStart => exact ⟨0, X, [], Nat.zero_le _, rfl, HX.out, FillA.nil _ _ _, rfl, fun j _ h => by simp at h, fun e he => by simp at he, hB⟩
  case round =>
    obtain ⟨k, Y, es', hk, rfl, ho, hfil, hel, hsm, hnr, hbe⟩ := hrel
    clear HX hB
    have hYl : Y.length = es.length * 6 := ho.1
    have HFIL : Hid (FillA 6 resF Y es' ∧ es'.length = k ∧ (∀ j (h : j < es.length) (h' : j < es'.length), es[j].same es'[j]) ∧ ∀ e ∈ es', NewRes w.heap.size wr n e) := ⟨hfil, hel, hsm, hnr⟩
    clear hfil hel hsm hnr
    by_cases hlt : k < es.length
    · obtain ⟨ba, oa, rfl, hba, p⟩ := HEA.out k hlt
      have A0 := (hbe.cell (p := ⟨ba, oa + k * 6 + 0, none⟩) hba).trans (p 0 _ rfl)
      have A1 := (hbe.cell (p := ⟨ba, oa + k * 6 + 1, none⟩) hba).trans (p 1 _ rfl)
      have A2 := (hbe.cell (p := ⟨ba, oa + k * 6 + 2, none⟩) hba).trans (p 2 _ rfl)
      have A3 := (hbe.cell (p := ⟨ba, oa + k * 6 + 3, none⟩) hba).trans (p 3 _ rfl)
      have A4 := (hbe.cell (p := ⟨ba, oa + k * 6 + 4, none⟩) hba).trans (p 4 _ rfl)
      have A5 := (hbe.cell (p := ⟨ba, oa + k * 6 + 5, none⟩) hba).trans (p 5 _ rfl)
      rw [Nat.add_zero] at A0
      obtain ⟨m1, m2, m3, m4, m5⟩ := resB_parts (HBK.out es[k] (List.getElem_mem hlt))
      obtain ⟨a1, a2, a3⟩ := (HAT.out es[k] (List.getElem_mem hlt)).below hbe
      have HC : Hid (type_of% (lawsToRes n es[k].rn es[k].vD es[k].ds es[k].nm es[k].bad es[k].vT es[k].vX es[k].ts es[k].xs wr a1 a2 a3 m1 m2 m3)) := lawsToRes n es[k].rn es[k].vD es[k].ds es[k].nm es[k].bad es[k].vT es[k].vX es[k].ts es[k].xs wr a1 a2 a3 m1 m2 m3
      have hg0 := (ho.lt w.heap.size rfl).2
      have HNX : Hid (∀ (u1 u4 u5 : Value) (w2 w3 : World), Below wr.heap.size wr w2 → Above (w.heap.size + 1) w2 w3 → w2.ownsRow wr.heap.size 100 2 u1 es[k].ds.length (dgV es[k].ds) → (∃ lo hi, wr.heap.size ≤ lo ∧ NewEnv lo hi w2 n u4 es[k].ts) → (∃ lo hi, wr.heap.size ≤ lo ∧ NewEnv lo hi w2 n u5 es[k].xs) → ∃ es2, FillA 6 resF ((((((Y.set (k * 6) (.string es[k].rn)).set (k * 6 + 1) u1).set (k * 6 + 2) (.string es[k].nm)).set (k * 6 + 3) (.bool es[k].bad)).set (k * 6 + 4) u4).set (k * 6 + 5) u5) es2 ∧ es2.length = k + 1 ∧ (∀ j (h : j < es.length) (h' : j < es2.length), es[j].same es2[j]) ∧ ∀ e ∈ es2, NewRes w.heap.size w3 n e) := fun u1 u4 u5 w2 w3 hb2 ha3 o1 ⟨lo, hi, l1, l2⟩ ⟨lo', hi', l3, l4⟩ => by
        obtain ⟨f1, f2, f3, f4⟩ := HFIL.out
        refine ⟨es' ++ [⟨es[k].rn, u1, es[k].ds, es[k].nm, es[k].bad, u4, es[k].ts, u5, es[k].xs⟩], FillA.more f1 (fun e _ => Nat.le_refl _) _ (fun i hi => ?_) (fun c u hu => ?_), by simp [f2], fun j h h' => ?_, fun e he => ?_⟩
        · rw [f2] at hi
          rw [List.getElem?_set_ne (by omega), List.getElem?_set_ne (by omega), List.getElem?_set_ne (by omega), List.getElem?_set_ne (by omega), List.getElem?_set_ne (by omega), List.getElem?_set_ne (by omega)]
        · rw [f2]
          match c, hu with
          | 0, hu => rw [List.getElem?_set_ne (by omega), List.getElem?_set_ne (by omega), List.getElem?_set_ne (by omega), List.getElem?_set_ne (by omega), List.getElem?_set_ne (by omega), Nat.add_zero, List.getElem?_set_self (by omega)]; exact hu
          | 1, hu => rw [List.getElem?_set_ne (by omega), List.getElem?_set_ne (by omega), List.getElem?_set_ne (by omega), List.getElem?_set_ne (by omega), List.getElem?_set_self (by simp; omega)]; exact hu
          | 2, hu => rw [List.getElem?_set_ne (by omega), List.getElem?_set_ne (by omega), List.getElem?_set_ne (by omega), List.getElem?_set_self (by simp; omega)]; exact hu
          | 3, hu => rw [List.getElem?_set_ne (by omega), List.getElem?_set_ne (by omega), List.getElem?_set_self (by simp; omega)]; exact hu
          | 4, hu => rw [List.getElem?_set_ne (by omega), List.getElem?_set_self (by simp; omega)]; exact hu
          | 5, hu => rw [List.getElem?_set_self (by simp; omega)]; exact hu
          | c + 6, hu => simp [resF] at hu
        · by_cases c : j < es'.length
          · rw [List.getElem_append_left c]
            exact f3 j h c
          · have hje : j = k := by simp at h'; omega
            subst hje
            subst f2
            simp only [List.getElem_concat_length]
            exact ⟨rfl, rfl, rfl, rfl, rfl, rfl⟩
        · rcases List.mem_append.1 he with he | he
          · exact ((f4 e he).step (Above.of_below hb2)).step ha3
          · simp only [List.mem_singleton] at he
            subst he
            exact NewRes.step ⟨dgLow o1 (by omega) fun _ _ => rfl, ⟨lo, hi, by omega, l2⟩, lo', hi', by omega, l4⟩ ha3
      clear p HEA HAT HBK HFIL a1 a2 a3 m1 m2 m3 m4 m5
      generalize es[k].rn = xa at *
      generalize es[k].vD = xb at *
      generalize es[k].nm = xc at *
      generalize es[k].bad = xd at *
      generalize es[k].vT = xe at *
      generalize es[k].vX = xf at *
      go_wp2_with fail
      refine HC.out.mono ?_
      rintro e w2 ⟨gD, gT, gX, loT, hiT, loX, hiX, rfl, hoD, hnT, hnX, hlT, hlX, hb2⟩
      have o1 := rowKeptA ho hb2
      have hbe2 : Below w.heap.size w w2 := hbe.trans (hb2.mono hbe.size)
      have HNY : Hid (∀ w3, Above (w.heap.size + 1) w2 w3 → _) := fun w3 h3 => HNX.out _ _ _ w2 w3 hb2 h3 hoD ⟨loT, hiT, hlT, hnT⟩ ⟨loX, hiX, hlX, hnX⟩
      clear ho hbe hb2 HC HNX hoD hnT hnX hlT hlX
      generalize hdl : es[k].ds.length = dl at *
      generalize htl : es[k].ts.length = tl at *
      generalize hxl : es[k].xs.length = xl at *
      clear hdl htl hxl
      have f0 := o1.frozenAt (k * 6)
      have q0 : ∃ u, (w2).cell? ⟨w.heap.size, k * 6, none⟩ = some u := by rw [o1.cellAt (k * 6) (by omega)]; exact ⟨_, List.getElem?_eq_getElem (by first | omega | (simp; omega))⟩
      obtain ⟨u0, q0⟩ := q0
      obtain ⟨o2, _⟩ := o1.stored (k * 6) (.string xa)
      have f1 := o2.frozenAt (k * 6 + 1)
      have q1 : ∃ u, ((w2).setCell ⟨w.heap.size, k * 6, none⟩ (.string xa)).cell? ⟨w.heap.size, k * 6 + 1, none⟩ = some u := by rw [o2.cellAt (k * 6 + 1) (by omega)]; exact ⟨_, List.getElem?_eq_getElem (by first | omega | (simp; omega))⟩
      obtain ⟨u1, q1⟩ := q1
      obtain ⟨o3, _⟩ := o2.stored (k * 6 + 1) (.slice (some ⟨gD, 0, none⟩) dl dl)
      have f2 := o3.frozenAt (k * 6 + 2)
      have q2 : ∃ u, (((w2).setCell ⟨w.heap.size, k * 6, none⟩ (.string xa)).setCell ⟨w.heap.size, k * 6 + 1, none⟩ (.slice (some ⟨gD, 0, none⟩) dl dl)).cell? ⟨w.heap.size, k * 6 + 2, none⟩ = some u := by rw [o3.cellAt (k * 6 + 2) (by omega)]; exact ⟨_, List.getElem?_eq_getElem (by first | omega | (simp; omega))⟩
      obtain ⟨u2, q2⟩ := q2
      obtain ⟨o4, _⟩ := o3.stored (k * 6 + 2) (.string xc)
      have f3 := o4.frozenAt (k * 6 + 3)
      have q3 : ∃ u, ((((w2).setCell ⟨w.heap.size, k * 6, none⟩ (.string xa)).setCell ⟨w.heap.size, k * 6 + 1, none⟩ (.slice (some ⟨gD, 0, none⟩) dl dl)).setCell ⟨w.heap.size, k * 6 + 2, none⟩ (.string xc)).cell? ⟨w.heap.size, k * 6 + 3, none⟩ = some u := by rw [o4.cellAt (k * 6 + 3) (by omega)]; exact ⟨_, List.getElem?_eq_getElem (by first | omega | (simp; omega))⟩
      obtain ⟨u3, q3⟩ := q3
      obtain ⟨o5, _⟩ := o4.stored (k * 6 + 3) (.bool xd)
      have f4 := o5.frozenAt (k * 6 + 4)
      have q4 : ∃ u, (((((w2).setCell ⟨w.heap.size, k * 6, none⟩ (.string xa)).setCell ⟨w.heap.size, k * 6 + 1, none⟩ (.slice (some ⟨gD, 0, none⟩) dl dl)).setCell ⟨w.heap.size, k * 6 + 2, none⟩ (.string xc)).setCell ⟨w.heap.size, k * 6 + 3, none⟩ (.bool xd)).cell? ⟨w.heap.size, k * 6 + 4, none⟩ = some u := by rw [o5.cellAt (k * 6 + 4) (by omega)]; exact ⟨_, List.getElem?_eq_getElem (by first | omega | (simp; omega))⟩
      obtain ⟨u4, q4⟩ := q4
      obtain ⟨o6, _⟩ := o5.stored (k * 6 + 4) (.slice (some ⟨gT, 0, none⟩) tl tl)
      have f5 := o6.frozenAt (k * 6 + 5)
      have q5 : ∃ u, ((((((w2).setCell ⟨w.heap.size, k * 6, none⟩ (.string xa)).setCell ⟨w.heap.size, k * 6 + 1, none⟩ (.slice (some ⟨gD, 0, none⟩) dl dl)).setCell ⟨w.heap.size, k * 6 + 2, none⟩ (.string xc)).setCell ⟨w.heap.size, k * 6 + 3, none⟩ (.bool xd)).setCell ⟨w.heap.size, k * 6 + 4, none⟩ (.slice (some ⟨gT, 0, none⟩) tl tl)).cell? ⟨w.heap.size, k * 6 + 5, none⟩ = some u := by rw [o6.cellAt (k * 6 + 5) (by omega)]; exact ⟨_, List.getElem?_eq_getElem (by first | omega | (simp; omega))⟩
      obtain ⟨u5, q5⟩ := q5
      obtain ⟨o7, _⟩ := o6.stored (k * 6 + 5) (.slice (some ⟨gX, 0, none⟩) xl xl)
      have HR1 : Hid (type_of% o7) := o7
      have hbf : Below w.heap.size w (((((((w2).setCell ⟨w.heap.size, k * 6, none⟩ (.string xa)).setCell ⟨w.heap.size, k * 6 + 1, none⟩ (.slice (some ⟨gD, 0, none⟩) dl dl)).setCell ⟨w.heap.size, k * 6 + 2, none⟩ (.string xc)).setCell ⟨w.heap.size, k * 6 + 3, none⟩ (.bool xd)).setCell ⟨w.heap.size, k * 6 + 4, none⟩ (.slice (some ⟨gT, 0, none⟩) tl tl)).setCell ⟨w.heap.size, k * 6 + 5, none⟩ (.slice (some ⟨gX, 0, none⟩) xl xl)) := (((((hbe2.setCell (Nat.le_refl _) _).setCell (Nat.le_refl _) _).setCell (Nat.le_refl _) _).setCell (Nat.le_refl _) _).setCell (Nat.le_refl _) _).setCell (Nat.le_refl _) _
      have haf : Above (w.heap.size + 1) w2 (((((((w2).setCell ⟨w.heap.size, k * 6, none⟩ (.string xa)).setCell ⟨w.heap.size, k * 6 + 1, none⟩ (.slice (some ⟨gD, 0, none⟩) dl dl)).setCell ⟨w.heap.size, k * 6 + 2, none⟩ (.string xc)).setCell ⟨w.heap.size, k * 6 + 3, none⟩ (.bool xd)).setCell ⟨w.heap.size, k * 6 + 4, none⟩ (.slice (some ⟨gT, 0, none⟩) tl tl)).setCell ⟨w.heap.size, k * 6 + 5, none⟩ (.slice (some ⟨gX, 0, none⟩) xl xl)) := (((((Above.set w2 ⟨w.heap.size, k * 6, none⟩ _ (Nat.lt_succ_self _)).trans (Above.set _ ⟨w.heap.size, k * 6 + 1, none⟩ _ (Nat.lt_succ_self _))).trans (Above.set _ ⟨w.heap.size, k * 6 + 2, none⟩ _ (Nat.lt_succ_self _))).trans (Above.set _ ⟨w.heap.size, k * 6 + 3, none⟩ _ (Nat.lt_succ_self _))).trans (Above.set _ ⟨w.heap.size, k * 6 + 4, none⟩ _ (Nat.lt_succ_self _))).trans (Above.set _ ⟨w.heap.size, k * 6 + 5, none⟩ _ (Nat.lt_succ_self _))
      obtain ⟨es2, g1, g2, g3, g4⟩ := HNY.out _ haf
      have HR2 : Hid (type_of% (And.intro g1 (And.intro g2 (And.intro g3 (And.intro g4 hbf))))) := ⟨g1, g2, g3, g4, hbf⟩
      clear o1 o2 o3 o4 o5 o6 o7 hbe2 haf hbf g1 g2 g3 g4 HNY
      go_wp2_with fail
      go_roundw
      case rel => exact ⟨k + 1, _, es2, by omega, by go_num, HR1.out, HR2.out.1, HR2.out.2.1, HR2.out.2.2.1, HR2.out.2.2.2.1, HR2.out.2.2.2.2⟩
      case measure => simp [intOf]; omega
    · have hke : k = es.length := by omega
      subst hke
      have HR : Hid (∃ es', SameRs es es' ∧ ∀ w3, Above w.heap.size wr w3 → ResAt w3 n (.slice (some ⟨w.heap.size, 0, none⟩) es.length es.length) es') := by
        obtain ⟨f1, f2, f3, f4⟩ := HFIL.out
        refine ⟨es', ⟨f2.symm, f3⟩, fun w3 h3 => ⟨?_, fun e he => ((f4 e he).step (h3.mono (Nat.le_succ _))).at⟩⟩
        have ho3 := dgLow ho (Nat.le_refl _) fun g hg => h3.2 g (ho.lt g hg).1 (ho.lt g hg).2
        rw [← f2] at ho3 ⊢
        exact f1.row ho3
      clear HFIL HEA HAT HBK ho hYl
      go_wp2_with fail
      go_ret
      exact ⟨rfl, HR.out, hbe⟩

end Go.Proofs.YtikoacgfnojoeaaGreatDoor

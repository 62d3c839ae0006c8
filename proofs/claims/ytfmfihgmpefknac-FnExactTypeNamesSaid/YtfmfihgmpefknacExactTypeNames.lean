/-
  At every type impl.TypeNames answers as the specification does (the law itself passes types that hold more than 1048576 by), writes into no argument, and its answer owns its memory; and nothing that was there has turned. No condition.
-/
import Derived.Test.YtfmfihgmpefknacNamesI
import Derived.Test.YtfmfihgmpefknacNamesS
import Derived.Test.YtfmfihgmpefknacMarkTy
import Derived.Test.YtfmfihgmpefknacEqL
import Derived.Test.YtfmfihgmpefknacTyO
import Derived.ProofKit
import Derived.OpenShut
import Derived.ChangeOld
namespace Go.Proofs.Ytfmfihgmpefknac.exactTypeNames
open Go.ChangeShapes Go.WideShapes Go.ChangeAt Go.RowKit

theorem own : ownKnob Try.prog.godebug = none := by kernel_rfl
theorem laidOut : laidOutB Try.prog = true := by kernel_rfl

theorem texts_own {w : World} {B : Nat} {v : Value} {ts : List ByteArray} (h : w.ownsRow B 9 1 v ts.length (strV ts)) : Texts w v ts := by
  rcases h.2 with ⟨e, h0⟩ | ⟨g, c, cur, e, _⟩
  · exact .inl ⟨List.length_eq_zero_iff.1 h0, _, _, e⟩
  · have h1 := h
    rw [e] at h1 ⊢
    exact Texts.own h1
theorem owns_only {w w' : World} {B e z n lo hi : Nat} {v : Value} {xs : List Value} (h : w.ownsRow B e z v n xs) (ho : Only lo hi w w') (hB : hi ≤ B) : w'.ownsRow B e z v n xs := by
  refine ⟨h.1, h.2.imp id ?_⟩
  rintro ⟨g, c, cur, e1, e2, e3, e4⟩
  exact ⟨g, c, cur, e1, e2, (ho.block g (Array.getElem?_eq_some_iff.1 e3).1 (.inr (by omega))).trans e3, e4⟩

/-- four cells of a block -/
def Four (w : World) (b : Nat) (x0 x1 x2 x3 : Value) : Prop := w.cell? ⟨b, 0, none⟩ = some x0 ∧ w.cell? ⟨b, 1, none⟩ = some x1 ∧ w.cell? ⟨b, 2, none⟩ = some x2 ∧ w.cell? ⟨b, 3, none⟩ = some x3
theorem four_new {w wx : World} {b : Nat} {x0 x1 x2 x3 : Value} {ty : TypeId} (e : b = w.heap.size) (hb : Below (b + 1) (w.alloc (.cells #[x0, x1, x2, x3] ty)) wx) : Four wx b x0 x1 x2 x3 := by
  refine ⟨?_, ?_, ?_, ?_⟩
  · rw [hb.cell (p := ⟨b, 0, none⟩) (Nat.lt_succ_self _), cellNew _ e]; rfl
  · rw [hb.cell (p := ⟨b, 1, none⟩) (Nat.lt_succ_self _), cellNew _ e]; rfl
  · rw [hb.cell (p := ⟨b, 2, none⟩) (Nat.lt_succ_self _), cellNew _ e]; rfl
  · rw [hb.cell (p := ⟨b, 3, none⟩) (Nat.lt_succ_self _), cellNew _ e]; rfl

set_option maxHeartbeats 1600000 in
set_option maxRecDepth 100000 in
theorem walk (n : Nat) (cs : List Value) (t : Ty) (w : World) (h : TyAt w n cs t) :
    Calls Try.prog 4 #[.agg cs.toArray] w fun e w' => e = .returned (.bool true) ∧ Below w.heap.size w w' := by
  obtain ⟨x0, x1, x2, x3, rfl⟩ : ∃ x0 x1 x2 x3, cs = [x0, x1, x2, x3] := by
    have hl := h.len
    match cs, hl with
    | [x0, x1, x2, x3], _ => exact ⟨x0, x1, x2, x3, rfl⟩
  have hB1 : Below w.heap.size w (w.alloc (.cells #[x0, x1, x2, x3] 25)) := (Below.refl _ _).alloc (Nat.le_refl _) _
  have HZ : Hid (Calls Try.prog 5 #[.agg #[x0, x1, x2, x3], .int .i64 1048576] (w.alloc (.cells #[x0, x1, x2, x3] 25)) fun e w' => e = .returned (.int .i64 (leftOf (Ty.bulk n t) 1048576)) ∧ Below (w.alloc (.cells #[x0, x1, x2, x3] 25)).heap.size (w.alloc (.cells #[x0, x1, x2, x3] 25)) w') := lawsSzTy n _ t 1048576 _ (h.below hB1) (by omega) (by omega)
  by_cases hbk : Ty.bulk n t ≤ 1048576
  · have hz1 : leftOf (Ty.bulk n t) 1048576 = 1048576 - (Ty.bulk n t : Nat) := if_pos (by omega)
    rw [hz1] at HZ
    have hN : (Ty.nodes n t).length ≤ 1048577 := by have := nodes_len n t; omega
    have HT : Hid (∀ wx : World, Below w.heap.size w wx → Calls Try.prog 7 #[.agg #[x0, x1, x2, x3]] wx fun e w' => ∃ an ln cn ak lk ck, e = .returned (.agg #[.int .i64 t.kind, .string t.name, .slice an ln cn, .slice ak lk ck]) ∧ NewTy wx.heap.size w'.heap.size w' n [.int .i64 t.kind, .string t.name, .slice an ln cn, .slice ak lk ck] t ∧ Below wx.heap.size wx w') := fun wx hx => lawsToTy n _ t wx (h.below hx) hbk
    have HS : Hid (∀ (cs : List Value) (wx : World), TyAt wx n cs t → Calls Try.prog 10 #[.agg cs.toArray] wx fun e w' => ∃ g cap r, e = .returned (.slice (some ⟨g, 0, none⟩) r.length cap) ∧ Held w' (.slice (some ⟨g, 0, none⟩) r.length cap) r ∧ r.length ≤ (Ty.nodes n t).length ∧ (∀ x, x ∈ r ↔ namesIn n t x) ∧ Below wx.heap.size wx w') := fun cs wx h => specNames n cs t wx h hN
    have HI : Hid (∀ (lo hi : Nat) (cs : List Value) (wx : World), TyIn wx n lo hi cs t → Calls Try.prog 11 #[.agg cs.toArray] wx fun e w' => ∃ ao cap r, e = .returned (.slice ao r.length cap) ∧ w'.ownsRow wx.heap.size 9 1 (.slice ao r.length cap) r.length (strV r) ∧ r.length ≤ 1048577 ∧ Asc r ∧ (∀ x, x ∈ r ↔ namesIn n t x) ∧ Below wx.heap.size wx w') := fun lo hi cs wx h => implNames n lo hi cs t wx (TyIn.up h) hbk
    have HE : Hid (∀ (ca cb : List Value) (wx : World), TyAt wx n ca t → TyAt wx n cb t → Calls Try.prog 9 #[.agg ca.toArray, .agg cb.toArray] wx fun e w' => e = .returned (.bool true) ∧ Below wx.heap.size wx w') := fun ca cb wx ha hb => lawsEqTy n ca cb t wx ha hb hbk
    have HMK : Hid (∀ (cs : List Value) (lo hi : Nat) (wx : World), TyIn wx n lo hi cs t → hi ≤ wx.heap.size → Calls Try.prog 13 #[.agg cs.toArray, .int .i64 1] wx fun e w' => ∃ k : Nat, e = .returned (.int .i64 k) ∧ 1 ≤ k ∧ k ≤ 200000000 ∧ Only lo hi wx w') := fun cs lo hi wx h hh => lawsMarkTy n cs t lo hi 1 wx h hh hbk (by omega) (by omega)
    clear h hz1
    generalize hB : Ty.bulk n t = B at *
    clear hB
    have hneg : ¬ (1048576 - (B : Int) < 0) := by omega
    go_enter Try.func4, Try.ntmps4
    go_wp2_with fail
    refine HZ.out.mono ?_
    rintro e w1 ⟨rfl, hb1⟩
    have D1 : Below (w.heap.size + 1) (w.alloc (.cells #[x0, x1, x2, x3] 25)) w1 := hb1.mono (by simp)
    have HA : Hid (∀ wx : World, Below (w.heap.size + 1) (w.alloc (.cells #[x0, x1, x2, x3] 25)) wx → Four wx w.heap.size x0 x1 x2 x3 ∧ Below w.heap.size w wx) := fun wx hx => ⟨four_new rfl hx, hB1.trans (hx.mono (by omega))⟩
    have hz1 : w.heap.size + 1 ≤ w1.heap.size := by have := hb1.size; simpa using this
    clear hb1 HZ
    obtain ⟨⟨a0, a1, a2, a3⟩, hw1⟩ := HA.out w1 D1
    go_wp2_with fail
    refine (HT.out _ hw1).mono ?_
    rintro e w2 ⟨an, ln, cn, ak, lk, ck, rfl, hn2, hb2⟩
    have D2 := D1.trans (hb2.mono hz1)
    have hz2 : w.heap.size + 1 ≤ w2.heap.size := Nat.le_trans hz1 hb2.size
    have hq2 := hn2.at
    clear a0 a1 a2 a3 hw1 hn2 D1 hz1 hb2
    go_wp2_with fail
    refine (HS.out _ w2 hq2).mono ?_
    rintro e w3 ⟨gs, caps, r, rfl, hheld, hrl, hrm, hb3⟩
    have D3 := D2.trans (hb3.mono hz2)
    have hz3 : w.heap.size + 1 ≤ w3.heap.size := Nat.le_trans hz2 hb3.size
    have hrl2 : r.length ≤ 1048577 := by omega
    have HRM : Hid (type_of% hrm) := hrm
    have HAR : Hid (Asc r) := hheld.asc
    have HTX : Hid (Texts w3 (.slice (some ⟨gs, 0, none⟩) r.length caps) r) := hheld.texts
    have HA3 : Hid (∀ wx : World, Below w3.heap.size w3 wx → Four wx w.heap.size x0 x1 x2 x3 ∧ Below w.heap.size w wx ∧ Texts wx (.slice (some ⟨gs, 0, none⟩) r.length caps) r) := fun wx hx => by
      obtain ⟨h1, h2⟩ := HA.out wx (D3.trans (hx.mono hz3))
      exact ⟨h1, h2, HTX.out.below hx⟩
    clear hq2 D2 hz2 hb3 HS hheld hrm hrl HA HTX D3
    obtain ⟨⟨a0, a1, a2, a3⟩, hw3, _⟩ := HA3.out w3 (Below.refl _ _)
    go_wp2_with fail
    refine (HT.out _ hw3).mono ?_
    rintro e w4 ⟨bn, ln2, cn2, bk, lk2, ck2, rfl, hn4, hb4⟩
    have hq4 := hn4.own
    have hq5 : TyIn (w4.alloc (.cells #[.int .i64 t.kind, .string t.name, .slice bn ln2 cn2, .slice bk lk2 ck2] 30)) n w3.heap.size w4.heap.size [.int .i64 t.kind, .string t.name, .slice bn ln2 cn2, .slice bk lk2 ck2] t := hq4.below ((Below.refl _ _).alloc (Nat.le_refl _) _)
    have hz4 : w3.heap.size ≤ w4.heap.size := hb4.size
    have B5 : Below w3.heap.size w3 (w4.alloc (.cells #[.int .i64 t.kind, .string t.name, .slice bn ln2 cn2, .slice bk lk2 ck2] 30)) := hb4.alloc hz4 _
    have HJ : Hid (∀ wx : World, Below (w4.heap.size + 1) (w4.alloc (.cells #[.int .i64 t.kind, .string t.name, .slice bn ln2 cn2, .slice bk lk2 ck2] 30)) wx → Four wx w4.heap.size (.int .i64 t.kind) (.string t.name) (.slice bn ln2 cn2) (.slice bk lk2 ck2) ∧ TyIn wx n w3.heap.size w4.heap.size [.int .i64 t.kind, .string t.name, .slice bn ln2 cn2, .slice bk lk2 ck2] t) := fun wx hx => ⟨four_new rfl hx, hq5.below (hx.mono (by simp))⟩
    have HC := HI.out _ _ _ _ hq5
    have HC2 : Hid (type_of% HC) := HC
    clear a0 a1 a2 a3 hw3 hn4 hq4 hq5 HC hb4
    go_wp2_with fail
    refine HC2.out.mono ?_
    rintro e w6 ⟨ag, capg, r', rfl, ho6, _, ha6, hm6, hb6⟩
    have hrr : r' = r := ha6.unique HAR.out fun x => by rw [hm6, HRM.out]
    subst hrr
    have E6 : Below (w4.heap.size + 1) (w4.alloc (.cells #[.int .i64 t.kind, .string t.name, .slice bn ln2 cn2, .slice bk lk2 ck2] 30)) w6 := hb6.mono (by simp)
    have B6 : Below w3.heap.size w3 w6 := B5.trans (hb6.mono (by simp; omega))
    have hz6 : w4.heap.size + 1 ≤ w6.heap.size := by have := hb6.size; simpa using this
    have O6 : w6.ownsRow (w4.heap.size + 1) 9 1 (.slice ag r'.length capg) r'.length (strV r') := by simpa using ho6
    clear hb6 HC2 B5 ho6 ha6 hm6
    obtain ⟨⟨a0, a1, a2, a3⟩, hw6, T6⟩ := HA3.out w6 B6
    have HQ := lawsEqL _ _ r' w6 (texts_own O6) T6 hrl2
    have HQ2 : Hid (type_of% HQ) := HQ
    have HO6 : Hid (type_of% O6) := O6
    clear HQ T6 a0 a1 a2 a3 O6
    go_wp2_with fail
    refine HQ2.out.mono ?_
    rintro e w7 ⟨rfl, hb7⟩
    have E7 := E6.trans (hb7.mono hz6)
    have B7 : Below w3.heap.size w3 w7 := B6.trans (hb7.mono (by omega))
    have hz7 : w4.heap.size + 1 ≤ w7.heap.size := Nat.le_trans hz6 hb7.size
    have HO7 : Hid (w7.ownsRow (w4.heap.size + 1) 9 1 (.slice ag r'.length capg) r'.length (strV r')) := kept_belowT HO6.out hb7
    clear HQ2 hb7 E6 B6 hz6 HO6 hw6
    obtain ⟨⟨a0, a1, a2, a3⟩, hw7, _⟩ := HA3.out w7 B7
    obtain ⟨⟨b0, b1, b2, b3⟩, hq7⟩ := HJ.out w7 E7
    have HQ7 : Hid (type_of% hq7) := hq7
    have hz37 : w3.heap.size ≤ w7.heap.size := B7.size
    have HO7d : Hid (w7.drew.ownsRow (w4.heap.size + 1) 9 1 (.slice ag r'.length capg) r'.length (strV r')) := HO7.out
    clear hq7
    go_wp2_with fail
    go_region_with (first | (go_at_call 7; refine (HT.out _ hw7.drew).mono ?_; rintro e w8 ⟨dn, ln3, cn3, dk, lk3, ck3, rfl, hn8, hb8⟩; have E8 := E7.drew.trans (hb8.mono hz7); have B8 := B7.drew.trans (hb8.mono hz37); have hz8 := Nat.le_trans hz7 hb8.size; have HO8 := kept_belowT HO7d.out hb8; obtain ⟨⟨c0, c1, c2, c3⟩, hq8⟩ := HJ.out w8 E8) | (go_at_call 9; refine (HE.out _ _ _ hq8.at hn8.at).mono ?_; rintro e w9 ⟨rfl, hb9⟩))
    all_goals
      have E9 := E8.trans (hb9.mono hz8)
      have hz38 : w3.heap.size ≤ w8.heap.size := B8.size
      have B9 := B8.trans (hb9.mono hz38)
      have hz9 : w4.heap.size + 1 ≤ w9.heap.size := Nat.le_trans hz8 hb9.size
      have O9 : w9.ownsRow (w4.heap.size + 1) 9 1 (.slice ag r'.length capg) r'.length (strV r') := kept_belowT HO8 hb9
      have HO9 : Hid (type_of% O9) := O9
      try clear b0 b1 b2 b3
      try clear a0 a1 a2 a3
      try clear c0 c1 c2 c3
      clear E8 B8 hz8 HO8 hq8 hn8 hb8 hb9 O9
      clear E7 B7 hz7 HO7 HO7d HQ7 hz37 hw7
      obtain ⟨⟨a0, a1, a2, a3⟩, hw9, _⟩ := HA3.out w9 B9
      obtain ⟨⟨b0, b1, b2, b3⟩, hq9⟩ := HJ.out w9 E9
      have HM9 := HMK.out _ _ _ w9 hq9 (by omega)
      have HM92 : Hid (type_of% HM9) := HM9
      clear HM9 hq9 HE HMK HJ
      go_wp2_with fail
      refine HM92.out.mono ?_
      rintro e w10 ⟨k, rfl, hk1, hk2, on10⟩
      have B10 : Below w3.heap.size w3 w10 := B9.trans (on10.below (Nat.le_refl _) B9.size)
      have O10 := owns_only HO9.out on10 (by omega)
      have hz10 : w4.heap.size + 1 ≤ w10.heap.size := Nat.le_trans hz9 on10.size
      clear a0 a1 a2 a3 b0 b1 b2 b3 hw9 HM92 on10 HO9 E9 B9 hz9
      obtain ⟨_, _, T10⟩ := HA3.out w10 B10
      have HQ := lawsEqL _ _ r' w10 (texts_own O10) T10 hrl2
      have HQ2 : Hid (type_of% HQ) := HQ
      have HO10 : Hid (type_of% O10) := O10
      have hkn : ¬ (k : Int) < 0 := by omega
      clear HQ T10 O10
      go_wp2_with fail
      refine HQ2.out.mono ?_
      rintro e w11 ⟨rfl, hb11⟩
      have B11 : Below w3.heap.size w3 w11 := B10.trans (hb11.mono B10.size)
      have O11 := kept_belowT HO10.out hb11
      have hz11 : w4.heap.size + 1 ≤ w11.heap.size := Nat.le_trans hz10 hb11.size
      have HMN : Hid (Calls Try.prog 14 #[.slice ag r'.length capg, .int .i64 1] w11 fun e w' => e = .returned (.int .i64 ((1 + r'.length : Nat) : Int)) ∧ w'.ownsRow (w4.heap.size + 1) 9 1 (.slice ag r'.length capg) r'.length (marksV 1 r'.length) ∧ Only (w4.heap.size + 1) w11.heap.size w11 w') := lawsMarkN _ r'.length (w4.heap.size + 1) (w4.heap.size + 1) w11.heap.size 1 _ w11 O11 (fun g hg => O11.lt g hg) hrl2 (by omega) (by omega)
      clear HQ2 hb11 HO10 B10 hz10 O11
      go_wp2_with fail
      refine HMN.out.mono ?_
      rintro e w12 ⟨rfl, O12, on12⟩
      have B12 : Below w3.heap.size w3 w12 := B11.trans (on12.below (by omega) B11.size)
      have HHN : Hid (Calls Try.prog 15 #[.slice ag r'.length capg, .int .i64 1] w12 fun e w' => e = .returned (.int .i64 ((1 + r'.length : Nat) : Int)) ∧ Below w12.heap.size w12 w') := lawsHeldN _ r'.length (w4.heap.size + 1) 1 w12 O12 hrl2 (by omega) (by omega)
      have HO12 : Hid (type_of% O12) := O12
      clear HMN on12 B11 O12 hz11
      go_wp2_with fail
      refine HHN.out.mono ?_
      rintro e w13 ⟨rfl, hb13⟩
      have B13 : Below w3.heap.size w3 w13 := B12.trans (hb13.mono B12.size)
      have HO13 : Hid (w13.ownsRow (w4.heap.size + 1) 9 1 (.slice ag r'.length capg) r'.length (marksV 1 r'.length)) := kept_belowT HO12.out hb13
      clear HHN hb13 HO12 B12
      obtain ⟨⟨a0, a1, a2, a3⟩, hw13, _⟩ := HA3.out w13 B13
      go_wp2_with fail
      refine (HT.out _ hw13).mono ?_
      rintro e w14 ⟨fn, ln4, cn4, fk, lk4, ck4, rfl, hn14, hb14⟩
      have B14 : Below w3.heap.size w3 w14 := B13.trans (hb14.mono B13.size)
      have HO14 : Hid (w14.ownsRow (w4.heap.size + 1) 9 1 (.slice ag r'.length capg) r'.length (marksV 1 r'.length)) := kept_belowT HO13.out hb14
      have HC := HI.out _ _ _ w14 hn14.own
      have HC2 : Hid (type_of% HC) := HC
      clear a0 a1 a2 a3 hw13 hn14 hb14 B13 HO13 HC
      go_wp2_with fail
      refine HC2.out.mono ?_
      rintro e w15 ⟨ah, caph, r2, rfl, ho15, _, ha15, hm15, hb15⟩
      have hr2 : r2 = r' := ha15.unique HAR.out fun x => by rw [hm15, HRM.out]
      subst hr2
      have B15 : Below w3.heap.size w3 w15 := B14.trans (hb15.mono B14.size)
      have HO15 : Hid (w15.ownsRow (w4.heap.size + 1) 9 1 (.slice ag r2.length capg) r2.length (marksV 1 r2.length)) := kept_belowT HO14.out hb15
      obtain ⟨_, _, T15⟩ := HA3.out w15 B15
      have HQ := lawsEqL _ _ r2 w15 (texts_own ho15) T15 hrl2
      have HQ2 : Hid (type_of% HQ) := HQ
      clear HQ T15 ho15 ha15 hm15 hb15 B14 HO14 HC2
      go_wp2_with fail
      refine HQ2.out.mono ?_
      rintro e w16 ⟨rfl, hb16⟩
      have B16 : Below w3.heap.size w3 w16 := B15.trans (hb16.mono B15.size)
      have O16 := kept_belowT HO15.out hb16
      have HHN : Hid (Calls Try.prog 15 #[.slice ag r2.length capg, .int .i64 1] w16 fun e w' => e = .returned (.int .i64 ((1 + r2.length : Nat) : Int)) ∧ Below w16.heap.size w16 w') := lawsHeldN _ r2.length (w4.heap.size + 1) 1 w16 O16 hrl2 (by omega) (by omega)
      clear HQ2 hb16 B15 HO15 O16
      go_wp2_with fail
      refine HHN.out.mono ?_
      rintro e w17 ⟨rfl, hb17⟩
      have B17 : Below w3.heap.size w3 w17 := B16.trans (hb17.mono B16.size)
      obtain ⟨_, hw17, _⟩ := HA3.out w17 B17
      clear HHN hb17 B16
      go_wp2_with fail
      go_ret
      exact ⟨rfl, hw17⟩
  · have hz1 : leftOf (Ty.bulk n t) 1048576 = -1 := if_neg (by omega)
    rw [hz1] at HZ
    clear h hbk hz1
    go_enter Try.func4, Try.ntmps4
    go_wp2_with fail
    refine HZ.out.mono ?_
    rintro e w1 ⟨rfl, hb1⟩
    go_wp2_with fail
    go_ret
    exact ⟨rfl, hB1.trans (hb1.mono (by simp))⟩

set_option maxRecDepth 100000 in
theorem lifted (os : Os) (started : os.Started) (H : Type) (enc : TypeId × Value → H) :
    ReturnsInHanded {} Try.checked os 4 .any (Rows.fnExactTypeNamesSpec.pre6 enc Try.prog Try.f4 Rows.fnExactTypeNamesRow.domain false) (Rows.fnExactTypeNamesSpec.post enc Try.prog Try.f4 false true false false) := by
  refine returnsInHanded_of_change (C := Try.checked) own started (by kernel_rfl) Try.func4
    (ChangeSpec.witness6 (enc := enc) (C := Try.checked) false ⟨#[], #[.agg #[.int .i64 0, .string ⟨#[]⟩, .slice none 0 0, .slice none 0 0]], []⟩ 8 (by kernel_rfl) (by kernel_rfl) (by kernel_rfl) (by kernel_rfl)) ?_
  intro W base args ds gs before hval0 hW hcnd _
  have hval : ∀ (j : Nat) t v, Try.f4.params[j]? = some t → args[j]? = some v → Value.okWide Try.prog W .any base t v := hval0
  have hW' := hW
  obtain ⟨p, q, hA0, hV, rfl, hfz, hnd⟩ := hW
  have hA : DataW.TrodAll enc Try.prog W 0 (fun _ => true) true Try.f4.params.toList args.toList ds p := hA0
  rw [Try.params4] at hA hval
  obtain ⟨v0, vs0, d0, ds0, p0, q0, hargs, rfl, rfl, h0, r0⟩ := trodAll_cons hA
  obtain ⟨rfl, rfl, rfl⟩ := trodAll_nil r0
  obtain rfl : args = #[v0] := by cases args; simp_all
  obtain ⟨rfl, rfl⟩ := trodVars_none hV
  obtain ⟨cs, rfl, hcs⟩ := okWide_struct Try.underlying25 (hval 0 25 v0 rfl rfl)
  have k0 := h0
  have lt0 : ∀ x ∈ p0, x.block < W.heap.size := by obtain ⟨m, hm⟩ := k0; exact DataW.trod_lt m _ _ _ hm
  obtain ⟨fuel, hf⟩ := h0
  obtain ⟨t, ht⟩ := opened_ty fuel _ _ hf
  clear hA0 hval0
  refine (walk fuel _ t W ht).mono fun e W' ⟨he, bel⟩ => ?_
  subst he
  exact ⟨_, rfl, _, _, _, [], _, [], hW', trodAll_mk1 (shut_bool Try.underlying4 _), (trodAll_cons_mk (Below.trod laidOut (by kernel_rfl) (of_decide_eq_true (by kernel_rfl)) k0 bel lt0) trodAll_mk0), rfl, bel.frame _, fun h => by cases h⟩

theorem over : Rows.fnExactTypeNamesRow.holds Try.pinned (OpenSpec.ofChange Rows.fnExactTypeNamesSpec) :=
  OpenClaim.holds_of_wide 4 Try.f4 rfl rfl rfl rfl rfl rfl rfl ⟨rfl, rfl, rfl, rfl, rfl⟩ rfl rfl rfl rfl rfl (by kernel_rfl) Try.func4 (by kernel_rfl)
    (of_decide_eq_true (by kernel_rfl)) (by unfold Func.isWrapper; first | (rw [if_pos (by decide +kernel)]; kernel_rfl) | (rw [if_neg (by decide +kernel)]; exact ⟨rfl, rfl⟩))
    (fun os started H enc _ => lifted os started H enc)

end Go.Proofs.Ytfmfihgmpefknac.exactTypeNames

namespace Go.Proofs.Ytfmfihgmpefknac

theorem exactTypeNames_holds : Rows.FnExactTypeNamesSaid := exactTypeNames.over

end Go.Proofs.Ytfmfihgmpefknac

/-
 The walk of impl.SummaryOk.
-/
import Derived.Test.YtbojmbeopnlmiaaGreatDoorEnvQ
namespace Go.Proofs.YtbojmbeopnlmiaaGreatDoor
open Go.RowKit
def ReachedAll (n : Nat) (ts xs : List (ByteArray × Ty)) : Prop := Asc (ts.map (·.1)) ∧ ∀ x, x ∈ ts.map (·.1) ↔ Rch (n + 1) ts (fnOf xs) x
open Classical in
noncomputable def sumRight (n : Nat) (nm : ByteArray) (bad : Bool) (ts xs : List (ByteArray × Ty)) : Bool :=
 Lx.nameOkP nm && if bad then decide (ts.length + xs.length = 0) else decide (EnvRight n ts) && decide (EnvRight n xs) && !(xs.any fun x => dotIn x.1) && !(ts.any fun x => !dotIn x.1) && decide (ReachedAll n ts xs)
theorem texts_ownSu {w : World} {B : Nat} {v : Value} {ts : List ByteArray} (h : w.ownsRow B 9 1 v ts.length (strV ts)) : Texts w v ts := by
 rcases h.2 with ⟨e, h0⟩ | ⟨g, c, cur, e, _⟩
 ·exact .inl ⟨List.length_eq_zero_iff.1 h0, _, _, e⟩
 ·have h1 := h
  rw [e] at h1 ⊢
  exact Texts.own h1
theorem boxS {W : World} {b : Nat} {T : TypeId} {x0 x1 x2 x3 : Value} (h : W.heap[b]? = some (.cells #[x0, x1, x2, x3] T (0, 0))) : W.cell? ⟨b, 0, none⟩ = some x0 ∧ W.cell? ⟨b, 1, none⟩ = some x1 ∧ W.cell? ⟨b, 2, none⟩ = some x2 ∧ W.cell? ⟨b, 3, none⟩ = some x3 := by
 refine ⟨?_, ?_, ?_, ?_⟩ <;> rw [cell_of_row _ _ _ _ _ _ h] <;> rfl
set_option maxHeartbeats 3200000 in
set_option maxRecDepth 100000 in
open Classical in
theorem implSummaryOk (n loT hiT loX hiX : Nat) (nm : ByteArray) (bad : Bool) (vT vX : Value) (ts xs : List (ByteArray × Ty)) (w : World) (hT : EnvIn w n loT hiT vT ts) (hhT : hiT ≤ w.heap.size) (hX : EnvIn w n loX hiX vX xs) (hhX : hiX ≤ w.heap.size) (hns : nm.size ≤ 1048576) (hbT : envBulk n ts ≤ 1048576) (hbX : envBulk n xs ≤ 1048576) (hbk : envBulk (n + 1) ts + Ty.bulk (n + 1) (fnOf xs) ≤ 1048576) (hc : ClsIs w) (hp : Lib.TabIs Tryz.prog w "internal/strconv.uint64pow10" .u64 Lib.pow10Tab) :
  Calls Tryz.prog 52 #[.agg #[.string nm, .bool bad, vT, vX]] w fun e w' => e = .returned (.bool (sumRight n nm bad ts xs)) ∧ Below w.heap.size w w' := by
 have hlT : ts.length ≤ 1048576 := by unfold envBulk at hbT; omega
 have hlX : xs.length ≤ 1048576 := by unfold envBulk at hbX; omega
 obtain ⟨bT, cT, rfl⟩ : ∃ b cap, vT = .slice (some ⟨b, 0, none⟩) ts.length cap := by
  obtain ⟨b, cap, e, _⟩ := hT
  exact ⟨b, cap, e⟩
 obtain ⟨bX, cX, rfl⟩ : ∃ b cap, vX = .slice (some ⟨b, 0, none⟩) xs.length cap := by
  obtain ⟨b, cap, e, _⟩ := hX
  exact ⟨b, cap, e⟩
 have hB1 : Below w.heap.size w (w.alloc (.cells #[.string nm, .bool bad, .slice (some ⟨bT, 0, none⟩) ts.length cT, .slice (some ⟨bX, 0, none⟩) xs.length cX] 41)) := (Below.refl _ _).alloc (Nat.le_refl _) _
 have HNM : Hid (∀ wx : World, Below w.heap.size w wx → Calls Tryz.prog 77 #[.string nm] wx fun e w' => e = .returned (.bool (Lx.nameOkP nm)) ∧ wx = w') := fun wx hx => implNameOk nm wx (by omega) (hc.below hx hc.lt)
 have HET : Hid (∀ wx : World, Below w.heap.size w wx → Calls Tryz.prog 78 #[.slice (some ⟨bT, 0, none⟩) ts.length cT] wx fun e w' => e = .returned (.bool (decide (EnvRight n ts))) ∧ Below wx.heap.size wx w') := fun wx hx => implEnvOk n loT hiT _ ts wx (EnvIn.belowS hT hx) (Nat.le_trans hhT hx.size) hbT (hc.below hx hc.lt) (Lib.tabBelow_of_tabIs hp wx hx)
 have HEX : Hid (∀ wx : World, Below w.heap.size w wx → Calls Tryz.prog 78 #[.slice (some ⟨bX, 0, none⟩) xs.length cX] wx fun e w' => e = .returned (.bool (decide (EnvRight n xs))) ∧ Below wx.heap.size wx w') := fun wx hx => implEnvOk n loX hiX _ xs wx (EnvIn.belowS hX hx) (Nat.le_trans hhX hx.size) hbX (hc.below hx hc.lt) (Lib.tabBelow_of_tabIs hp wx hx)
 have HDX : Hid (∀ wx : World, Below w.heap.size w wx → Calls Tryz.prog 79 #[.slice (some ⟨bX, 0, none⟩) xs.length cX, .func (Fn.func 80) #[] #[]] wx fun e w' => e = .returned (.bool (xs.any fun x => dotIn x.1)) ∧ Below wx.heap.size wx w') := fun wx hx => hasDots n _ xs wx (EnvIn.belowS hX hx).at hlX
 have HDT : Hid (∀ wx : World, Below w.heap.size w wx → Calls Tryz.prog 79 #[.slice (some ⟨bT, 0, none⟩) ts.length cT, .func (Fn.func 81) #[] #[]] wx fun e w' => e = .returned (.bool (ts.any fun x => !dotIn x.1)) ∧ Below wx.heap.size wx w') := fun wx hx => hasNoDots n _ ts wx (EnvIn.belowS hT hx).at hlT
 have HBX : Hid (∀ wx : World, Below (w.heap.size + 1) (w.alloc (.cells #[.string nm, .bool bad, .slice (some ⟨bT, 0, none⟩) ts.length cT, .slice (some ⟨bX, 0, none⟩) xs.length cX] 41)) wx → wx.cell? ⟨w.heap.size, 0, none⟩ = some (.string nm) ∧ wx.cell? ⟨w.heap.size, 1, none⟩ = some (.bool bad) ∧ wx.cell? ⟨w.heap.size, 2, none⟩ = some (.slice (some ⟨bT, 0, none⟩) ts.length cT) ∧ wx.cell? ⟨w.heap.size, 3, none⟩ = some (.slice (some ⟨bX, 0, none⟩) xs.length cX)) := fun wx hx => boxS ((hx.block w.heap.size (by omega)).trans (MapKept.heap_alloc w _).1)
 have HB0 : Hid (∀ wx : World, Below (w.heap.size + 1) (w.alloc (.cells #[.string nm, .bool bad, .slice (some ⟨bT, 0, none⟩) ts.length cT, .slice (some ⟨bX, 0, none⟩) xs.length cX] 41)) wx → Below w.heap.size w wx) := fun wx hx => hB1.trans (hx.mono (by omega))
 have HS1 : Hid ((w.alloc (.cells #[.string nm, .bool bad, .slice (some ⟨bT, 0, none⟩) ts.length cT, .slice (some ⟨bX, 0, none⟩) xs.length cX] 41)).heap.size = w.heap.size + 1) := by show _ = _; simp
 have HNO : Hid (∀ wx : World, Below w.heap.size w wx → Calls Tryz.prog 83 #[.slice (some ⟨bT, 0, none⟩) ts.length cT] wx fun e w' => ∃ (a : Option Addr) (c : Nat), e = .returned (.slice a ts.length c) ∧ w'.ownsRow wx.heap.size 9 1 (.slice a ts.length c) ts.length (strV (ts.map (·.1))) ∧ Below wx.heap.size wx w') := fun wx hx => implNamesOf n _ ts wx (EnvIn.belowS hT hx).at hlT
 have HRF : Hid (∀ wx : World, Below w.heap.size w wx → Calls Tryz.prog 84 #[.slice (some ⟨bT, 0, none⟩) ts.length cT, .slice (some ⟨bX, 0, none⟩) xs.length cX] wx fun e w' => ∃ (ao : Option Addr) (cap : Nat) (r : List ByteArray), e = .returned (.slice ao r.length cap) ∧ w'.ownsRow wx.heap.size 9 1 (.slice ao r.length cap) r.length (strV r) ∧ (r.length ≤ 1048577 ∧ decide (ts.map (·.1) = r) = decide (ReachedAll n ts xs)) ∧ Below wx.heap.size wx w') := fun wx hx => (implReachedFrom n loT hiT loX hiX _ _ ts xs wx (EnvIn.belowS hT hx) (Nat.le_trans hhT hx.size) (EnvIn.belowS hX hx) (Nat.le_trans hhX hx.size) hbk).mono fun e w' ⟨ao, cap, r, he, ho, hrl, hasc, hin, hb'⟩ => ⟨ao, cap, r, he, ho, ⟨hrl, decide_eq_decide.2 ⟨fun h => ⟨by rw [h]; exact hasc, fun x => by rw [h]; exact hin x⟩, fun h => Asc.unique h.1 hasc fun x => (h.2 x).trans (hin x).symm⟩⟩, hb'⟩
 have HEQ : Hid (∀ (wx : World) (B B' : Nat) (a : Option Addr) (c : Nat) (ao : Option Addr) (cap : Nat) (r : List ByteArray), wx.ownsRow B 9 1 (.slice a ts.length c) ts.length (strV (ts.map (·.1))) → wx.ownsRow B' 9 1 (.slice ao r.length cap) r.length (strV r) → r.length ≤ 1048577 ∧ decide (ts.map (·.1) = r) = decide (ReachedAll n ts xs) → Calls Tryz.prog 82 #[.slice a ts.length c, .slice ao r.length cap] wx fun e w' => e = .returned (.bool (decide (ReachedAll n ts xs))) ∧ Below wx.heap.size wx w') := fun wx B B' a c ao cap r h1 h2 h3 => by
  rw [← h3.2]
  exact slEqualT _ _ _ r wx (texts_ownSu (B := B) (by rw [List.length_map]; exact h1)) (texts_ownSu h2) (by rw [List.length_map]; omega) h3.1
 obtain ⟨R, hR⟩ : ∃ R, R = sumRight n nm bad ts xs := ⟨_, rfl⟩
 rw [← hR]
 have HR : Hid (type_of% hR) := hR
 clear hR hc hp hT hX hbT hbX hbk
 go_enter Tryz.func52, Tryz.ntmps52
 go_wp2_with fail
 refine (HNM.out _ hB1).mono ?_
 rintro e w1 ⟨rfl, rfl⟩
 cases hnm : Lx.nameOkP nm with
 | false =>
  have HR2 : Hid (R = false) := by show _ = _; rw [HR.out, sumRight, hnm]; rfl
  clear hnm HR
  go_wp2_with fail
  go_ret
  exact ⟨by rw [HR2.out]; rfl, hB1⟩
 | true =>
  cases bad with
  | true =>
   have HR2 : Hid (R = decide (ts.length + xs.length = 0)) := by show _ = _; rw [HR.out, sumRight, hnm]; rfl
   clear hnm HR
   go_wp2_with fail
   go_ret
   refine ⟨?_, hB1⟩
   rw [HR2.out]
   show Ending.returned (.bool (decide ((ts.length : Int) + (xs.length : Int) = 0))) = _
   rw [show decide ((ts.length : Int) + (xs.length : Int) = 0) = decide (ts.length + xs.length = 0) from decide_eq_decide.2 (by omega)]
  | false =>
   have HR1 : Hid (R = (decide (EnvRight n ts) && decide (EnvRight n xs) && !(xs.any fun x => dotIn x.1) && !(ts.any fun x => !dotIn x.1) && decide (ReachedAll n ts xs))) := by show _ = _; rw [HR.out, sumRight, hnm]; rfl
   clear hnm HR
   generalize decide (EnvRight n ts) = d1 at *
   generalize decide (EnvRight n xs) = d2 at *
   generalize (xs.any fun x => dotIn x.1) = d3 at *
   generalize (ts.any fun x => !dotIn x.1) = d4 at *
   go_wp2_with fail
   refine (HET.out _ hB1).mono ?_
   rintro e w2 ⟨rfl, hb2⟩
   rw [HS1.out] at hb2
   have hw2 := HB0.out _ hb2
   obtain ⟨_, _, k2, k3⟩ := HBX.out _ hb2
   cases d1 with
   | false =>
    have HR2 : Hid (R = false) := by show _ = _; rw [HR1.out]; rfl
    go_wp2_with fail
    go_ret
    exact ⟨by rw [HR2.out]; rfl, hw2⟩
   | true =>
    have hs2 : w.heap.size + 1 ≤ w2.heap.size := by have := hb2.size; rw [HS1.out] at this; exact this
    clear HET
    go_wp2_with fail
    refine (HEX.out _ hw2).mono ?_
    rintro e w3 ⟨rfl, hb3⟩
    have hb13 := hb2.trans (hb3.mono hs2)
    have hs3 : w.heap.size + 1 ≤ w3.heap.size := Nat.le_trans hs2 hb3.size
    have hw3 := HB0.out _ hb13
    obtain ⟨_, _, l2, l3⟩ := HBX.out _ hb13
    clear HEX hb3 hb2 k2 k3
    cases d2 with
    | false =>
     have HR2 : Hid (R = false) := by show _ = _; rw [HR1.out]; rfl
     go_wp2_with fail
     go_ret
     exact ⟨by rw [HR2.out]; rfl, hw3⟩
    | true =>
     go_wp2_with fail
     refine (HDX.out _ hw3).mono ?_
     rintro e w4 ⟨rfl, hb4⟩
     have hb14 := hb13.trans (hb4.mono hs3)
     have hs4 : w.heap.size + 1 ≤ w4.heap.size := Nat.le_trans hs3 hb4.size
     have hw4 := HB0.out _ hb14
     obtain ⟨_, _, m2, m3⟩ := HBX.out _ hb14
     clear HDX hb4 hb13 l2 l3
     cases d3 with
     | true =>
      have HR2 : Hid (R = false) := by show _ = _; rw [HR1.out]; rfl
      go_wp2_with fail
      go_ret
      exact ⟨by rw [HR2.out]; rfl, hw4⟩
     | false =>
      go_wp2_with fail
      refine (HDT.out _ hw4).mono ?_
      rintro e w5 ⟨rfl, hb5⟩
      have hb15 := hb14.trans (hb5.mono hs4)
      have hs5 : w.heap.size + 1 ≤ w5.heap.size := Nat.le_trans hs4 hb5.size
      have hw5 := HB0.out _ hb15
      obtain ⟨_, _, n2, n3⟩ := HBX.out _ hb15
      clear HDT hb5 hb14 m2 m3
      cases d4 with
      | true =>
       have HR2 : Hid (R = false) := by show _ = _; rw [HR1.out]; rfl
       go_wp2_with fail
       go_ret
       exact ⟨by rw [HR2.out]; rfl, hw5⟩
      | false =>
       have HR2 : Hid (R = decide (ReachedAll n ts xs)) := by show _ = _; rw [HR1.out]; rfl
       clear HR1 hB1 HB0 HBX HS1 hw2 hw3 hw4 hb15
       generalize decide (ReachedAll n ts xs) = d5 at *
       go_wp2_with fail
       go_region_with (first
        | (go_at_call 83; first
          | (refine (HNO.out _ hw5.drew).mono ?_; rintro e wN ⟨aN, cN, rfl, hoN, hbN⟩; have hwN := hw5.drew.trans (hbN.mono hw5.drew.size); have N2 := (hbN.cell (p := ⟨w.heap.size, 2, none⟩) hs5).trans n2; have N3 := (hbN.cell (p := ⟨w.heap.size, 3, none⟩) hs5).trans n3)
          | (refine (HNO.out _ hwR).mono ?_; rintro e wN ⟨aN, cN, rfl, hoN, hbN⟩; have hoR2 := kept_belowT hoR hbN; have hwE := hwR.trans (hbN.mono hwR.size)))
        | (go_at_call 84; first
          | (refine (HRF.out _ hw5.drew).mono ?_; rintro e wR ⟨aR, cR, r, rfl, hoR, hrd, hbR⟩; have hwR := hw5.drew.trans (hbR.mono hw5.drew.size); have R2 := (hbR.cell (p := ⟨w.heap.size, 2, none⟩) hs5).trans n2)
          | (refine (HRF.out _ hwN).mono ?_; rintro e wR ⟨aR, cR, r, rfl, hoR, hrd, hbR⟩; have hoN2 := kept_belowT hoN hbR; have hwE := hwN.trans (hbR.mono hwN.size)))
        | (go_at_call 82; first
          | (refine (HEQ.out _ _ _ aN cN aR cR r hoN2 hoR hrd).mono ?_; rintro e wE ⟨rfl, hbE⟩)
          | (refine (HEQ.out _ _ _ aN cN aR cR r hoN hoR2 hrd).mono ?_; rintro e wE ⟨rfl, hbE⟩)))
       all_goals
        go_wp2_with fail
        go_ret
        exact ⟨by rw [HR2.out]; rfl, hwE.trans (hbE.mono hwE.size)⟩
end Go.Proofs.YtbojmbeopnlmiaaGreatDoor

/-
  The walk of the law FnExactFarmReport.
  At every farm impl.FarmReport answers as the specification does (the law itself passes farms that hold more than 1048576 by), and nothing that was there has turned. Its condition: the library's three listed tables and impl's listed error hold what the program's text lays into them, which the card ties to that text.
-/
import Derived.Test.YtikoacgfnojoeaaGreatDoorFrS
import Derived.Test.YtikoacgfnojoeaaGreatDoorFmT
import Derived.Deep.RegionWith
import Derived.Test.YtikoacgfnojoeaaGreatDoorCards
import Derived.Test.YtikoacgfnojoeaaGreatDoorTie
import Derived.ProofKit
import Derived.OpenShut
import Derived.ShutString
import Derived.ChangeOld
import Derived.Deep.DeepHandedRow
import Derived.OpenVars
import Derived.ChangeVars
import Derived.Stop.LaidErr
import Derived.LaidLaws
import Derived.LaidHandle
import Derived.Lib.LaidTab
namespace Go.Proofs.YtikoacgfnojoeaaGreatDoor
open Go.RowKit

theorem FarmV.at.sl {w : World} {n : Nat} {e : FarmV} (h : e.at w n) : ∃ (a1 : Option Addr) (n1 : Nat) (c1 : Nat) (wt : Int) (a2 : Option Addr) (n2 : Nat) (c2 : Nat) (ck : Int) (ep : Int) (a3 : Option Addr) (n3 : Nat) (c3 : Nat) (a4 : Option Addr) (n4 : Nat) (c4 : Nat) (a5 : Option Addr) (n5 : Nat) (c5 : Nat) (rm : Int) (a6 : Option Addr) (n6 : Nat) (c6 : Nat), e.cells.toArray = #[.slice a1 n1 c1, .int .i64 wt, .slice a2 n2 c2, .int .i64 ck, .int .i64 ep, .slice a3 n3 c3, .slice a4 n4 c4, .slice a5 n5 c5, .int .i64 rm, .slice a6 n6 c6] := by
  obtain ⟨vS, set, wait, vU, up, clock, epoch, vL, leases, vR, done, vN, net, room, vI, items⟩ := e
  obtain ⟨hS, hU, hL, hR, hN, hI⟩ := h
  simp only at hS hU hL hR hN hI
  obtain ⟨aS, cS, rfl, _⟩ := srcOpen hS
  obtain ⟨aU, cU, rfl, _⟩ := rowA_open hU
  obtain ⟨aL, cL, rfl, _⟩ := rowA_open hL
  obtain ⟨aR, cR, rfl, _⟩ := rowA_open hR.1
  obtain ⟨aN, cN, rfl, _⟩ := rowA_open hN
  obtain ⟨aI, cI, rfl, _⟩ := itOpen hI
  exact ⟨aS, set.length, cS, wait, aU, up.length, cU, clock, epoch, aL, leases.length, cL, aR, done.length, cR, aN, net.length, cN, room, aI, items.length, cI, rfl⟩

def TenR (w : World) (b : Nat) (x0 x1 x2 x3 x4 x5 x6 x7 x8 x9 : Value) : Prop :=
  w.cell? ⟨b, 0, none⟩ = some x0 ∧ w.cell? ⟨b, 1, none⟩ = some x1 ∧ w.cell? ⟨b, 2, none⟩ = some x2 ∧ w.cell? ⟨b, 3, none⟩ = some x3 ∧ w.cell? ⟨b, 4, none⟩ = some x4 ∧ w.cell? ⟨b, 5, none⟩ = some x5 ∧ w.cell? ⟨b, 6, none⟩ = some x6 ∧ w.cell? ⟨b, 7, none⟩ = some x7 ∧ w.cell? ⟨b, 8, none⟩ = some x8 ∧ w.cell? ⟨b, 9, none⟩ = some x9
theorem tenR_new {w X : World} {x0 x1 x2 x3 x4 x5 x6 x7 x8 x9 : Value} {t : TypeId} (hx : Below (w.heap.size + 1) (w.alloc (.cells #[x0, x1, x2, x3, x4, x5, x6, x7, x8, x9] t)) X) : TenR X w.heap.size x0 x1 x2 x3 x4 x5 x6 x7 x8 x9 := by
  have hr : X.heap[w.heap.size]? = some (.cells #[x0, x1, x2, x3, x4, x5, x6, x7, x8, x9] t (0, 0)) := (hx.block w.heap.size (by omega)).trans (MapKept.heap_alloc w _).1
  refine ⟨?_, ?_, ?_, ?_, ?_, ?_, ?_, ?_, ?_, ?_⟩
  · rw [cell_of_row _ _ 0 _ _ (0, 0) hr]; rfl
  · rw [cell_of_row _ _ 1 _ _ (0, 0) hr]; rfl
  · rw [cell_of_row _ _ 2 _ _ (0, 0) hr]; rfl
  · rw [cell_of_row _ _ 3 _ _ (0, 0) hr]; rfl
  · rw [cell_of_row _ _ 4 _ _ (0, 0) hr]; rfl
  · rw [cell_of_row _ _ 5 _ _ (0, 0) hr]; rfl
  · rw [cell_of_row _ _ 6 _ _ (0, 0) hr]; rfl
  · rw [cell_of_row _ _ 7 _ _ (0, 0) hr]; rfl
  · rw [cell_of_row _ _ 8 _ _ (0, 0) hr]; rfl
  · rw [cell_of_row _ _ 9 _ _ (0, 0) hr]; rfl

theorem resB_same {n : Nat} {a b : ResV} (h : a.same b) : resB n a = resB n b := by
  obtain ⟨h1, h2, h3, h4, h5, h6⟩ := h
  unfold resB
  rw [h1, h2, h3, h5, h6]
theorem bulkR_same {n : Nat} {es es' : List ResV} (h : SameRs es es') : bulkA (resB n) es = bulkA (resB n) es' := by
  have : es.map (resB n) = es'.map (resB n) := by
    apply List.ext_getElem
    · rw [List.length_map, List.length_map]; exact h.1
    · intro j h1 h2
      have h1' : j < es.length := by rw [List.length_map] at h1; exact h1
      have h2' : j < es'.length := by rw [List.length_map] at h2; exact h2
      rw [List.getElem_map, List.getElem_map, resB_same (h.2 j h1' h2')]
  unfold bulkA sumA
  rw [this, h.1]
theorem farmB_same {n : Nat} {e f : FarmV} (h : e.same f) : farmB n f = farmB n e := by
  unfold farmB
  rw [h.set, h.up, h.leases, h.net, h.items, bulkR_same h.done]
theorem lines_same {e f : FarmV} (h : e.same f) (hl : ∀ r ∈ e.done, r.lines) : ∀ r ∈ f.done, r.lines := fun r hr => by
  obtain ⟨j, hj, rfl⟩ := List.getElem_of_mem hr
  have hj' : j < e.done.length := by rw [h.done.1]; exact hj
  have h2 := (h.done.2 j hj' hj).2.1
  have h3 := hl _ (List.getElem_mem hj')
  unfold ResV.lines at h3 ⊢
  rw [← h2]
  exact h3

set_option maxHeartbeats 3200000 in
set_option maxRecDepth 100000 in
theorem walkFarmReport (n : Nat) (e : FarmV) (w : World) (p : Addr) (h : e.at w n) (hf : e.few) (hg : w.cell? ⟨0, 0, none⟩ = some (.iface 207 (.pointer (some p)))) (htab : Lib.TabIs Tryz.prog w "internal/strconv.uint64pow10" .u64 Lib.pow10Tab) :
    Calls Tryz.prog 3 #[.agg e.cells.toArray] w fun r w' => r = .returned (.bool true) ∧ Below w.heap.size w w' := by
  obtain ⟨a1, n1, c1, wt, a2, n2, c2, ck, ep, a3, n3, c3, a4, n4, c4, a5, n5, c5, rm, a6, n6, c6, heq⟩ := h.sl
  have hB1 : Below w.heap.size w (w.alloc (.cells #[.slice a1 n1 c1, .int .i64 wt, .slice a2 n2 c2, .int .i64 ck, .int .i64 ep, .slice a3 n3 c3, .slice a4 n4 c4, .slice a5 n5 c5, .int .i64 rm, .slice a6 n6 c6] 31)) := (Below.refl _ _).alloc (Nat.le_refl _) _
  have HZ0 := lawsSzFarm n e _ (h.below hB1) hf
  rw [heq] at HZ0
  rw [heq]
  have HZ : Hid (type_of% HZ0) := HZ0
  have hln : ∀ r ∈ e.done, r.lines := fun r hr d hd => (((hf.done.2 r hr).2.2.1 d hd).1)
  by_cases hbk : farmB n e ≤ 1048576
  · have hz1 : leftA (farmB n e) 1048576 = 1048576 - (farmB n e : Nat) := leftA_yes (by omega)
    rw [hz1] at HZ
    have HT : Hid (∀ wx : World, Below w.heap.size w wx → Calls Tryz.prog 6 #[.agg #[.slice a1 n1 c1, .int .i64 wt, .slice a2 n2 c2, .int .i64 ck, .int .i64 ep, .slice a3 n3 c3, .slice a4 n4 c4, .slice a5 n5 c5, .int .i64 rm, .slice a6 n6 c6]] wx fun r w' => ∃ (a1' : Option Addr) (n1' : Nat) (c1' : Nat) (wt' : Int) (a2' : Option Addr) (n2' : Nat) (c2' : Nat) (ck' : Int) (ep' : Int) (a3' : Option Addr) (n3' : Nat) (c3' : Nat) (a4' : Option Addr) (n4' : Nat) (c4' : Nat) (a5' : Option Addr) (n5' : Nat) (c5' : Nat) (rm' : Int) (a6' : Option Addr) (n6' : Nat) (c6' : Nat) (e2 : FarmV), r = .returned (.agg #[.slice a1' n1' c1', .int .i64 wt', .slice a2' n2' c2', .int .i64 ck', .int .i64 ep', .slice a3' n3' c3', .slice a4' n4' c4', .slice a5' n5' c5', .int .i64 rm', .slice a6' n6' c6']) ∧ e2.cells.toArray = #[.slice a1' n1' c1', .int .i64 wt', .slice a2' n2' c2', .int .i64 ck', .int .i64 ep', .slice a3' n3' c3', .slice a4' n4' c4', .slice a5' n5' c5', .int .i64 rm', .slice a6' n6' c6'] ∧ e.same e2 ∧ e2.at w' n ∧ Below wx.heap.size wx w') := fun wx hx => by
      have hh := lawsToFarm n e wx (h.below hx) hbk
      rw [heq] at hh
      refine hh.mono ?_
      rintro r w' ⟨e2, rfl, h1, h2, h3⟩
      obtain ⟨a1', n1', c1', wt', a2', n2', c2', ck', ep', a3', n3', c3', a4', n4', c4', a5', n5', c5', rm', a6', n6', c6', heq2⟩ := h2.sl
      exact ⟨a1', n1', c1', wt', a2', n2', c2', ck', ep', a3', n3', c3', a4', n4', c4', a5', n5', c5', rm', a6', n6', c6', e2, by rw [heq2], heq2, h1, h2, h3⟩
    have HS : Hid (∀ (wx : World) (X : Array Value) (e2 : FarmV), e2.cells.toArray = X → e.same e2 → e2.at wx n → Calls Tryz.prog 5 #[.agg X] wx fun r w' => (∃ t b, r = .returned (.tuple #[.string t, .bool b]) ∧ FrOut e2.set e2.done t b) ∧ Below wx.heap.size wx w') := fun wx X e2 hx hs ha => hx ▸ specFarmReport n e2 wx ha (by rw [farmB_same hs]; exact hbk) (lines_same hs hln)
    have HI : Hid (∀ (wx : World) (X : Array Value) (e2 : FarmV), e2.cells.toArray = X → e.same e2 → e2.at wx n → Below w.heap.size w wx → Calls Tryz.prog 7 #[.agg X] wx fun r w' => (∃ t b, r = .returned (.tuple #[.string t, .bool b]) ∧ FrOut e2.set e2.done t b) ∧ Below wx.heap.size wx w') := fun wx X e2 hx hs ha hb => hx ▸ implFarmReport n e2 wx p ha (by rw [farmB_same hs]; exact hbk) (lines_same hs hln) ((hb.cell (p := ⟨0, 0, none⟩) (World.block_lt_of_cell? w ⟨0, 0, none⟩ hg)).trans hg) (Lib.tabBelow_of_tabIs htab wx hb)
    have HE : Hid (∀ (wx : World) (X Y : Array Value) (e2 f2 : FarmV), e2.cells.toArray = X → f2.cells.toArray = Y → e.same e2 → e.same f2 → e2.at wx n → f2.at wx n → Calls Tryz.prog 8 #[.agg X, .agg Y] wx fun r w' => r = .returned (.bool true) ∧ Below wx.heap.size wx w') := fun wx X Y e2 f2 hx hy hs hs2 ha hb => by
      rw [← hx, ← hy]
      exact lawsEqFarm n e2 f2 wx ha hb (hs.symm.trans hs2) (by rw [farmB_same hs]; exact hbk)
    clear h hf hln hz1 htab hg HZ0 heq
    generalize hB : farmB n e = B at *
    clear hB
    have hneg : ¬ (1048576 - (B : Int) < 0) := by omega
    have HA : Hid (∀ wx : World, Below (w.heap.size + 1) (w.alloc (.cells #[.slice a1 n1 c1, .int .i64 wt, .slice a2 n2 c2, .int .i64 ck, .int .i64 ep, .slice a3 n3 c3, .slice a4 n4 c4, .slice a5 n5 c5, .int .i64 rm, .slice a6 n6 c6] 31)) wx → TenR wx w.heap.size (.slice a1 n1 c1) (.int .i64 wt) (.slice a2 n2 c2) (.int .i64 ck) (.int .i64 ep) (.slice a3 n3 c3) (.slice a4 n4 c4) (.slice a5 n5 c5) (.int .i64 rm) (.slice a6 n6 c6) ∧ Below w.heap.size w wx) := fun wx hx => ⟨tenR_new hx, hB1.trans (hx.mono (by omega))⟩
    go_enter Tryz.func3, Tryz.ntmps3
    go_wp2_with fail
    refine HZ.out.mono ?_
    rintro r w1 ⟨rfl, hb1⟩
    have D1 : Below (w.heap.size + 1) (w.alloc (.cells #[.slice a1 n1 c1, .int .i64 wt, .slice a2 n2 c2, .int .i64 ck, .int .i64 ep, .slice a3 n3 c3, .slice a4 n4 c4, .slice a5 n5 c5, .int .i64 rm, .slice a6 n6 c6] 31)) w1 := hb1.mono (by simp)
    have hz1 : w.heap.size + 1 ≤ w1.heap.size := by have := hb1.size; simpa using this
    clear hb1 HZ
    obtain ⟨⟨y0, y1, y2, y3, y4, y5, y6, y7, y8, y9⟩, hw1⟩ := HA.out w1 D1
    go_wp2_with fail
    refine (HT.out _ hw1).mono ?_
    rintro r w2 ⟨a12, n12, c12, wt2, a22, n22, c22, ck2, ep2, a32, n32, c32, a42, n42, c42, a52, n52, c52, rm2, a62, n62, c62, e2, rfl, heq2, hs2, hat2, hb2⟩
    have D2 := D1.trans (hb2.mono hz1)
    have hz2 : w.heap.size + 1 ≤ w2.heap.size := Nat.le_trans hz1 hb2.size
    have HS1 := HS.out _ _ e2 heq2 hs2 hat2
    have HS2 : Hid (type_of% HS1) := HS1
    have HSAME2 : Hid (e.same e2) := hs2
    clear y0 y1 y2 y3 y4 y5 y6 y7 y8 y9 hw1 hat2 heq2 hs2 D1 hz1 hb2 HS HS1
    go_wp2_with fail
    refine HS2.out.mono ?_
    rintro r w3 ⟨⟨t, b, rfl, hfr⟩, hb3⟩
    have HF3 : Hid (FrOut e2.set e2.done t b) := hfr
    have D3 := D2.trans (hb3.mono hz2)
    have hz3 : w.heap.size + 1 ≤ w3.heap.size := Nat.le_trans hz2 hb3.size
    clear D2 hz2 hb3 HS2 hfr
    obtain ⟨⟨y0, y1, y2, y3, y4, y5, y6, y7, y8, y9⟩, hw3⟩ := HA.out w3 D3
    go_wp2_with fail
    refine (HT.out _ hw3).mono ?_
    rintro r w4 ⟨a14, n14, c14, wt4, a24, n24, c24, ck4, ep4, a34, n34, c34, a44, n44, c44, a54, n54, c54, rm4, a64, n64, c64, e4, rfl, heq4, hs4, hat4, hb4⟩
    have D4 := D3.trans (hb4.mono hz3)
    have hz4 : w.heap.size + 1 ≤ w4.heap.size := Nat.le_trans hz3 hb4.size
    have bJ : Below w4.heap.size w4 (w4.alloc (.cells #[.slice a14 n14 c14, .int .i64 wt4, .slice a24 n24 c24, .int .i64 ck4, .int .i64 ep4, .slice a34 n34 c34, .slice a44 n44 c44, .slice a54 n54 c54, .int .i64 rm4, .slice a64 n64 c64] 43)) := (Below.refl _ _).alloc (Nat.le_refl _) _
    have hm4 := hat4.below bJ
    have D5 : Below (w.heap.size + 1) (w.alloc (.cells #[.slice a1 n1 c1, .int .i64 wt, .slice a2 n2 c2, .int .i64 ck, .int .i64 ep, .slice a3 n3 c3, .slice a4 n4 c4, .slice a5 n5 c5, .int .i64 rm, .slice a6 n6 c6] 31)) (w4.alloc (.cells #[.slice a14 n14 c14, .int .i64 wt4, .slice a24 n24 c24, .int .i64 ck4, .int .i64 ep4, .slice a34 n34 c34, .slice a44 n44 c44, .slice a54 n54 c54, .int .i64 rm4, .slice a64 n64 c64] 43)) := D4.alloc hz4 _
    have HJ : Hid (∀ wx : World, Below (w4.heap.size + 1) (w4.alloc (.cells #[.slice a14 n14 c14, .int .i64 wt4, .slice a24 n24 c24, .int .i64 ck4, .int .i64 ep4, .slice a34 n34 c34, .slice a44 n44 c44, .slice a54 n54 c54, .int .i64 rm4, .slice a64 n64 c64] 43)) wx → TenR wx w4.heap.size (.slice a14 n14 c14) (.int .i64 wt4) (.slice a24 n24 c24) (.int .i64 ck4) (.int .i64 ep4) (.slice a34 n34 c34) (.slice a44 n44 c44) (.slice a54 n54 c54) (.int .i64 rm4) (.slice a64 n64 c64) ∧ e4.at wx n) := fun wx hx => ⟨tenR_new hx, hm4.below (hx.mono (by simp))⟩
    have HC := HI.out _ _ e4 heq4 hs4 hm4 (hB1.trans (D5.mono (by omega)))
    have HC2 : Hid (type_of% HC) := HC
    have HEQ4 : Hid (e4.cells.toArray = #[.slice a14 n14 c14, .int .i64 wt4, .slice a24 n24 c24, .int .i64 ck4, .int .i64 ep4, .slice a34 n34 c34, .slice a44 n44 c44, .slice a54 n54 c54, .int .i64 rm4, .slice a64 n64 c64]) := heq4
    have HSAME4 : Hid (e.same e4) := hs4
    clear y0 y1 y2 y3 y4 y5 y6 y7 y8 y9 hw3 hat4 heq4 hs4 D3 hz3 hb4 D4 HI HC bJ hm4
    go_wp2_with fail
    refine HC2.out.mono ?_
    rintro r w6 ⟨⟨t', b', rfl, hfr⟩, hb6⟩
    have hone := HF3.out.one (es' := e4.done) (by rw [← HSAME2.out.set, HSAME4.out.set]; exact hfr) (HSAME2.out.done.symm.trans HSAME4.out.done)
    obtain ⟨rfl, rfl⟩ := hone
    have E6 : Below (w4.heap.size + 1) (w4.alloc (.cells #[.slice a14 n14 c14, .int .i64 wt4, .slice a24 n24 c24, .int .i64 ck4, .int .i64 ep4, .slice a34 n34 c34, .slice a44 n44 c44, .slice a54 n54 c54, .int .i64 rm4, .slice a64 n64 c64] 43)) w6 := hb6.mono (by simp)
    have D6 : Below (w.heap.size + 1) (w.alloc (.cells #[.slice a1 n1 c1, .int .i64 wt, .slice a2 n2 c2, .int .i64 ck, .int .i64 ep, .slice a3 n3 c3, .slice a4 n4 c4, .slice a5 n5 c5, .int .i64 rm, .slice a6 n6 c6] 31)) w6 := D5.trans (hb6.mono (by simp; omega))
    have hz6 : w4.heap.size + 1 ≤ w6.heap.size := by have := hb6.size; simpa using this
    clear hb6 HC2 D5 hfr HF3
    obtain ⟨⟨y0, y1, y2, y3, y4, y5, y6, y7, y8, y9⟩, hw6⟩ := HA.out w6 D6
    obtain ⟨⟨z0, z1, z2, z3, z4, z5, z6, z7, z8, z9⟩, hq6⟩ := HJ.out w6 E6
    go_wp2_with fail
    go_region_with (first | (go_at_call 6; refine (HT.out _ hw6.drew).mono ?_; rintro r w7 ⟨a17, n17, c17, wt7, a27, n27, c27, ck7, ep7, a37, n37, c37, a47, n47, c47, a57, n57, c57, rm7, a67, n67, c67, e7, rfl, heq7, hs7, hat7, hb7⟩; have E7 := E6.drew.trans (hb7.mono hz6); have hw7 := hw6.drew.trans (hb7.mono hw6.size); obtain ⟨⟨x0, x1, x2, x3, x4, x5, x6, x7, x8, x9⟩, hq7⟩ := HJ.out w7 E7) | (go_at_call 8; refine (HE.out _ _ _ e4 e7 HEQ4.out heq7 HSAME4.out hs7 hq7 hat7).mono ?_; rintro r w8 ⟨rfl, hb8⟩))
    all_goals
      clear heq7
      go_wp2_with fail
      go_ret
      exact ⟨rfl, hw7.trans (hb8.mono hw7.size)⟩
  · have hz1 : leftA (farmB n e) 1048576 = -1 := leftA_no (by omega)
    rw [hz1] at HZ
    clear h hf hbk hz1 htab hg hln HZ0 heq
    go_enter Tryz.func3, Tryz.ntmps3
    go_wp2_with fail
    refine HZ.out.mono ?_
    rintro r w1 ⟨rfl, hb1⟩
    go_wp2_with fail
    go_ret
    exact ⟨rfl, hB1.trans (hb1.mono (by simp))⟩

end Go.Proofs.YtikoacgfnojoeaaGreatDoor

namespace Go.Proofs.YtikoacgfnojoeaaGreatDoor.exactFarmReport
open Go.ChangeShapes Go.WideShapes Go.ChangeAt Go.RowKit

theorem own : ownKnob Tryz.prog.godebug = none := by kernel_rfl
theorem gTab : Tryz.prog.globalNamed "internal/strconv.uint64pow10" = some 2 := by kernel_rfl
theorem gTabType : (Tryz.prog.globals[2]?).map (·.type) = some 198 := by kernel_rfl

theorem gErr : Tryz.prog.globalNamed "loop.example/g00276/impl.errNotDone" = some 0 := by kernel_rfl
theorem gErrType : (Tryz.prog.globals[0]?).map (·.type) = some 71 := by kernel_rfl
theorem cellsStr : Tryz.prog.cellsOf 230 = 1 := by kernel_rfl
theorem cellsText : Tryz.prog.cellsOf 9 = 1 := by kernel_rfl
theorem starE : "*" ++ "errors.errorString" = "*errors.errorString" := by decide
/-- the one row of that name -/
theorem rowE (u : TypeId) (h : Tryz.prog.typeName? 3 u = some "*errors.errorString") : u = 207 :=
  typeName_ptr_named (nm := "errors.errorString") (by rw [starE]; kernel_rfl) (by kernel_rfl) (by decide) u (by rw [starE]; exact h)

theorem table {W : World} (h : laidMetH Tryz.prog Rows.fnExactFarmReportRow.laid W) : Lib.TabIs Tryz.prog W "internal/strconv.uint64pow10" .u64 Lib.pow10Tab ∧ ∃ a : Addr, W.cell? ⟨0, 0, none⟩ = some (.iface 207 (.pointer (some a))) := by
  have h2 : laidMet Tryz.prog [("math/bits.deBruijn32tab", Rows.laid_math_bits_deBruijn32tab), ("math/bits.deBruijn64tab", Rows.laid_math_bits_deBruijn64tab), ("internal/strconv.uint64pow10", Rows.laid_internal_strconv_uint64pow10), ("loop.example/g00276/impl.errNotDone", Rows.laid_loop_example_g00276_impl_errNotDone)] W := h
  have h3 := h2.tail.tail
  obtain ⟨a0, s0, hv0, _⟩ := laid_sentinel h3.tail gErr gErrType Tryz.underlying71 rowE Tryz.underlying207 Tryz.underlying230 rfl rfl Tryz.underlying9 cellsStr cellsText
  rw [powDatum] at h3
  exact ⟨Lib.tabIs_of_head gTab gTabType Tryz.underlying198 Tryz.underlying189 (by kernel_rfl) (by kernel_rfl) h3, a0, by simpa using World.var?_cell gErr hv0 0⟩

theorem laidOut : laidOutB Tryz.prog = true := by kernel_rfl

set_option maxRecDepth 100000 in
theorem contract (H : Type) (enc : TypeId × Value → H) (W : World) (base : Nat) (args : Array Value) (ds gs : List (DataW H)) (before : List MemPlace)
    (hval : ∀ (j : Nat) t v, Tryz.f3.params[j]? = some t → args[j]? = some v → Value.okWide Tryz.prog W .any base t v)
    (hW : DataW.Whole enc Tryz.prog Tryz.f3.params.toList Rows.fnExactFarmReportSpec.vars false W args.toList ds gs before) (hL : laidMetH Tryz.prog Rows.fnExactFarmReportRow.laid W) :
    Calls Tryz.prog 3 args W fun e W' => ∃ v, e = .returned v ∧ Rows.fnExactFarmReportSpec.post enc Tryz.prog Tryz.f3 false true false false W args v W' := by
  have hW' := hW
  obtain ⟨p, q, hA0, hV, rfl, hfz, hnd⟩ := hW
  have hA : DataW.TrodAll enc Tryz.prog W 0 (fun _ => true) true Tryz.f3.params.toList args.toList ds p := hA0
  rw [Tryz.params3] at hA hval
  obtain ⟨v0, vs0, d0, ds0, p0, q0, hargs, rfl, rfl, h0, r0⟩ := trodAll_cons hA
  obtain ⟨rfl, rfl, rfl⟩ := trodAll_nil r0
  obtain rfl : args = #[v0] := by cases args; simp_all
  have hV0 := hV
  obtain ⟨g0, t0, cs0, fu0, dv, pv, rfl, _, _, _, _, _⟩ := trodVars_one hV
  obtain ⟨cs, rfl, hcs⟩ := okWide_struct Tryz.underlying31 (hval 0 31 v0 rfl rfl)
  have k0 := h0
  have lt0 : ∀ x ∈ p0, x.block < W.heap.size := by obtain ⟨m, hm⟩ := k0; exact DataW.trod_lt m _ _ _ hm
  obtain ⟨fuel, hf⟩ := h0
  obtain ⟨d, e0, hcv, hat, hfew⟩ := opened_farm fuel _ _ hf
  obtain rfl : cs = e0.cells.toArray := by
    cases cs
    simpa [Value.cells] using hcv
  clear hA0
  obtain ⟨htab, a0, hg⟩ := table hL
  refine (walkFarmReport d e0 W a0 hat hfew hg htab).mono fun e W' ⟨he, bel⟩ => ?_
  subst he
  exact ⟨_, rfl, _, _, _, [], _, _, hW', trodAll_mk1 (shut_bool Tryz.underlying4 _), (trodAll_cons_mk (Below.trod laidOut (by kernel_rfl) (of_decide_eq_true (by kernel_rfl)) k0 bel lt0) trodAll_mk0), Below.trodVars laidOut bel (by kernel_rfl) hV0, bel.frame _, fun h => by cases h⟩

def u8s (l : List Int) : Array Value := (l.map fun z => Value.int .u8 z).toArray
def bare32 : List Int := [0, 1, 28, 2, 29, 14, 24, 3, 30, 22, 20, 15, 25, 17, 4, 8, 31, 27, 13, 23, 21, 19, 16, 7, 26, 12, 18, 6, 11, 5, 10, 9]
def bare64 : List Int := [0, 1, 56, 2, 57, 49, 28, 3, 61, 58, 42, 50, 38, 29, 17, 4, 62, 47, 59, 36, 45, 43, 51, 22, 53, 39, 33, 30, 24, 18, 12, 5, 63, 55, 48, 27, 60, 41, 37, 16, 46, 35, 44, 21, 52, 32, 23, 11, 54, 26, 40, 15, 34, 20, 31, 10, 25, 14, 19, 9, 13, 8, 7, 6]
def fill (cs : Array Value) : Obj → Obj
  | .cells _ t frozen => .cells cs t frozen
  | o => o
def errText : ByteArray := { data := #[110, 111, 116, 32, 97, 108, 108, 32, 109, 111, 100, 117, 108, 101, 115, 32, 97, 114, 101, 32, 100, 111, 110, 101] }
noncomputable def low : Nat := (World.holding Tryz.prog default ⟨#[], #[], []⟩).heap.size
noncomputable def laidWorld (P : Program) (os : Os) : World :=
  let w0 := World.holding P os ⟨#[.cells #[.string errText] 230], #[], []⟩
  { w0 with heap := (((w0.heap.modify 2 (fill (Lib.pow10Tab.map fun z => Value.int .u64 z).toArray)).modify 3 (fill (u8s bare32))).modify 4 (fill (u8s bare64))).modify 0 (fill #[.iface 207 (.pointer (some ⟨low, 0, none⟩))]) }
theorem laid_met (os : Os) : laidMetH Tryz.prog Rows.fnExactFarmReportRow.laid ((laidWorld Tryz.prog os).forCall (fun _ _ => 0) ⟨#[], #[.agg #[.slice none 0 0, .int .i64 0, .slice none 0 0, .int .i64 0, .int .i64 0, .slice none 0 0, .slice none 0 0, .slice none 0 0, .int .i64 0, .slice none 0 0]], []⟩).memory :=
  laidMetH_of_parts (laidMet_of_run' 8 (by kernel_rfl) (by kernel_rfl)) (by kernel_rfl)
theorem reads (os : Os) {H : Type} (enc : TypeId × Value → H) : ∃ ds gs places, DataW.whole enc Tryz.prog ((laidWorld Tryz.prog os).forCall (fun _ _ => 0) ⟨#[], #[.agg #[.slice none 0 0, .int .i64 0, .slice none 0 0, .int .i64 0, .int .i64 0, .slice none 0 0, .slice none 0 0, .slice none 0 0, .int .i64 0, .slice none 0 0]], []⟩).memory Tryz.f3.params.toList Rows.fnExactFarmReportSpec.vars false #[Value.agg #[.slice none 0 0, .int .i64 0, .slice none 0 0, .int .i64 0, .int .i64 0, .slice none 0 0, .slice none 0 0, .slice none 0 0, .int .i64 0, .slice none 0 0]].toList 8 = some (ds, gs, places) :=
  ⟨[.agg [.nil, .lit (.int .i64 0), .nil, .lit (.int .i64 0), .lit (.int .i64 0), .nil, .nil, .nil, .agg [.lit (.int .i64 0), .nil]]], [.held (enc (207, .pointer (some ⟨low, 0, none⟩)))], MemPlace.row ⟨0, 0, none⟩ 1, by kernel_rfl⟩

set_option maxRecDepth 100000 in
theorem lifted (os : Os) (started : os.Started) (H : Type) (enc : TypeId × Value → H) (F : Stop.Interp) :
    ReturnsInHanded {} Tryz.checked os 3 .any ((OpenSpec.ofChange Rows.fnExactFarmReportSpec).preRow enc Tryz.prog Tryz.f3 Rows.fnExactFarmReportRow.domain false Rows.fnExactFarmReportRow.laid) (((OpenSpec.ofChange Rows.fnExactFarmReportSpec).at F).post enc Tryz.prog Tryz.f3 false true false false) := by
  obtain ⟨ds, gs, places, hx⟩ := reads os enc
  refine returnsInHanded_of_row (C := Tryz.checked) (s := OpenSpec.ofChange Rows.fnExactFarmReportSpec) own started (by kernel_rfl) Tryz.func3
    (witness_row_at (enc := enc) (C := Tryz.checked) false (laidWorld Tryz.prog os) #[.agg #[.slice none 0 0, .int .i64 0, .slice none 0 0, .int .i64 0, .int .i64 0, .slice none 0 0, .slice none 0 0, .slice none 0 0, .int .i64 0, .slice none 0 0]] rfl (by kernel_rfl) (by kernel_rfl) (by kernel_rfl)
      (OpenSpec.preRow_of_cond 8 hx (by kernel_rfl) (fun k hk => by cases hk) (by kernel_rfl) (laid_met os))) ?_
  intro W base args ds gs before hval hW _ _ _ hL _ _
  exact contract H enc W base args ds gs before hval hW hL

theorem said : Rows.FnExactFarmReportSaid :=
  OpenClaim.holds_of_cond 3 Tryz.f3 rfl rfl rfl rfl rfl rfl rfl ⟨rfl, rfl, rfl, rfl, rfl⟩ rfl rfl rfl rfl rfl (by kernel_rfl) Tryz.func3 (by kernel_rfl)
    (of_decide_eq_true (by kernel_rfl)) (by unfold Func.isWrapper; first | (rw [if_pos (by decide +kernel)]; kernel_rfl) | (rw [if_neg (by decide +kernel)]; exact ⟨rfl, rfl⟩))
    (fun os started H enc _ F => by rw [OpenClaim.pre_eq_preRow]; exact lifted os started H enc F)

theorem plain (f : FuncId) (fn : Func) (hf : Tryz.pinned.checked.prog.funcNamed "loop.example/g00276/laws.FnExactFarmReport" = some f) (hfn : Tryz.pinned.checked.prog.funcs[f]? = some fn) :
    Rows.fnExactFarmReportCard.stood.looks = Tryz.pinned.checked.prog.looks [] ∧ ∀ (j : Nat) t, fn.params[j]? = some t → Tryz.pinned.checked.prog.wantsStandIn t = false := by
  obtain rfl : f = 3 := Option.some.inj ((show Tryz.prog.funcNamed "loop.example/g00276/laws.FnExactFarmReport" = some 3 by kernel_rfl).symm.trans hf) |>.symm
  obtain rfl : fn = Tryz.f3 := (Option.some.inj (Tryz.func3.symm.trans hfn)).symm
  refine ⟨by kernel_rfl, fun j t ht => ?_⟩
  rw [Tryz.params3] at ht
  obtain rfl : t = 31 := by simpa using Array.mem_of_getElem? ht
  exact (show Tryz.prog.wantsStandIn 31 = false by kernel_rfl)

end Go.Proofs.YtikoacgfnojoeaaGreatDoor.exactFarmReport

namespace Go.Proofs.YtikoacgfnojoeaaGreatDoor

theorem exactFarmReport_holds : Rows.FnExactFarmReportCardSaid :=
  Claim7.holds_tied_plain_at .later [] _ _ _ _ exactFarmReport.said (fun _ h => by cases h) (by kernel_rfl) (fun _ h => by cases h) fnExactFarmReport_row_tie rfl ⟨rfl, rfl⟩ (by kernel_rfl) rfl exactFarmReport.plain (by kernel_rfl)

end Go.Proofs.YtikoacgfnojoeaaGreatDoor

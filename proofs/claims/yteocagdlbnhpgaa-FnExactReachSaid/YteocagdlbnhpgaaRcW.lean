/-
  The body of the law of Reach.
-/
import Derived.Test.YteocagdlbnhpgaaRcI
import Derived.Test.YteocagdlbnhpgaaRcS
import Derived.Test.YteocagdlbnhpgaaLkM
import Derived.Test.YteocagdlbnhpgaaNmSz
import Derived.Test.YteocagdlbnhpgaaNmEq
import Derived.Test.YteocagdlbnhpgaaMarkTy
import Derived.Test.YteocagdlbnhpgaaEqL
namespace Go.Proofs.Yteocagdlbnhpgaa
open Go.RowKit

theorem texts_ownR {w : World} {B : Nat} {v : Value} {ts : List ByteArray} (h : w.ownsRow B 9 1 v ts.length (strV ts)) : Texts w v ts := by
  rcases h.2 with ⟨e, h0⟩ | ⟨g, c, cur, e, _⟩
  · exact .inl ⟨List.length_eq_zero_iff.1 h0, _, _, e⟩
  · have h1 := h
    rw [e] at h1 ⊢
    exact Texts.own h1
theorem owns_onlyR {w w' : World} {B e z n lo hi : Nat} {v : Value} {xs : List Value} (h : w.ownsRow B e z v n xs) (ho : Only lo hi w w') (hB : hi ≤ B) : w'.ownsRow B e z v n xs := by
  refine ⟨h.1, h.2.imp id ?_⟩
  rintro ⟨g, c, cur, e1, e2, e3, e4⟩
  exact ⟨g, c, cur, e1, e2, (ho.block g (Array.getElem?_eq_some_iff.1 e3).1 (.inr (by omega))).trans e3, e4⟩
theorem above_only {w w' : World} {B lo hi : Nat} (h : Only lo hi w w') (hB : hi ≤ B) : Above B w w' := ⟨h.size, fun b h1 h2 => h.block b h2 (.inr (by omega))⟩
theorem four_above {w wx : World} {B : Nat} {x0 x1 x2 x3 : Value} {ty : TypeId} (h : Above B (w.alloc (.cells #[x0, x1, x2, x3] ty)) wx) (hB : B ≤ w.heap.size) : wx.cell? ⟨w.heap.size, 0, none⟩ = some x0 ∧ wx.cell? ⟨w.heap.size, 1, none⟩ = some x1 ∧ wx.cell? ⟨w.heap.size, 2, none⟩ = some x2 ∧ wx.cell? ⟨w.heap.size, 3, none⟩ = some x3 := by
  have e : wx.heap[w.heap.size]? = some (.cells #[x0, x1, x2, x3] ty (0, 0)) := (h.2 _ hB (by simp)).trans (MapKept.heap_alloc w _).1
  refine ⟨?_, ?_, ?_, ?_⟩
  · rw [cell_of_row _ _ _ _ _ _ e]; rfl
  · rw [cell_of_row _ _ _ _ _ _ e]; rfl
  · rw [cell_of_row _ _ _ _ _ _ e]; rfl
  · rw [cell_of_row _ _ _ _ _ _ e]; rfl

set_option maxHeartbeats 6400000 in
set_option maxRecDepth 100000 in
theorem walkReach (n : Nat) (v : Value) (es : List (ByteArray × Ty)) (cs : List Value) (t : Ty) (w : World) (hE : EnvAt w (n + 1) v es) (hkl : es.length ≤ maxLen) (h : TyAt w (n + 1) cs t) :
    Calls Try.prog 4 #[v, .agg cs.toArray] w fun e w' => e = .returned (.bool true) ∧ Below w.heap.size w w' := by
  obtain ⟨x0, x1, x2, x3, rfl⟩ : ∃ x0 x1 x2 x3, cs = [x0, x1, x2, x3] := by
    have hl := h.len
    match cs, hl with
    | [x0, x1, x2, x3], _ => exact ⟨x0, x1, x2, x3, rfl⟩
  obtain ⟨W1, hW1⟩ : ∃ W1, W1 = w.alloc (.cells #[x0, x1, x2, x3] 32) := ⟨_, rfl⟩
  have hB1 : Below w.heap.size w W1 := by rw [hW1]; exact (Below.refl _ _).alloc (Nat.le_refl _) _
  have HZ : Hid (Calls Try.prog 5 #[v, .int .i64 1048576] W1 fun e w' => e = .returned (.int .i64 (leftOf (envBulk (n + 1) es) 1048576)) ∧ Below W1.heap.size W1 w') := lawsSzEnv (n + 1) v es 1048576 _ (hE.below hB1) hkl (by omega) (by omega)
  have HA : Hid (∀ wx : World, Below W1.heap.size W1 wx → (wx.cell? ⟨w.heap.size, 0, none⟩ = some x0 ∧ wx.cell? ⟨w.heap.size, 1, none⟩ = some x1 ∧ wx.cell? ⟨w.heap.size, 2, none⟩ = some x2 ∧ wx.cell? ⟨w.heap.size, 3, none⟩ = some x3) ∧ Below w.heap.size w wx) := fun wx hx => ⟨four_box rfl (by rw [hW1] at hx; simpa using hx), hB1.trans (hx.mono hB1.size)⟩
  have HZT : Hid (∀ (left : Int) (wx : World), 0 ≤ left → left ≤ 1048576 → Below w.heap.size w wx → Calls Try.prog 10 #[.agg #[x0, x1, x2, x3], .int .i64 left] wx fun e w' => e = .returned (.int .i64 (leftOf (Ty.bulk (n + 1) t) left)) ∧ Below wx.heap.size wx w') := fun left wx h1 h2 hx => lawsSzTy (n + 1) _ t left wx (h.below hx) h1 h2
  obtain ⟨av, capv, rfl, _⟩ := envOpen hE
  by_cases hbe : envBulk (n + 1) es ≤ 1048576
  · have hz1 : leftOf (envBulk (n + 1) es) 1048576 = 1048576 - (envBulk (n + 1) es : Nat) := if_pos (by omega)
    rw [hz1] at HZ
    by_cases hbk : envBulk (n + 1) es + Ty.bulk (n + 1) t ≤ 1048576
    · have hbt : Ty.bulk (n + 1) t ≤ 1048576 := by omega
      have hz2 : leftOf (Ty.bulk (n + 1) t) (1048576 - (envBulk (n + 1) es : Nat)) = 1048576 - (envBulk (n + 1) es : Nat) - (Ty.bulk (n + 1) t : Nat) := if_pos (by omega)
      have HTE : Hid (∀ wx : World, Below w.heap.size w wx → Calls Try.prog 7 #[.slice av es.length capv] wx fun e w' => e = .returned (.slice (some ⟨wx.heap.size, 0, none⟩) es.length es.length) ∧ NewEnv wx.heap.size w'.heap.size w' (n + 1) (.slice (some ⟨wx.heap.size, 0, none⟩) es.length es.length) es ∧ Below wx.heap.size wx w') := fun wx hx => lawsToEnv (n + 1) _ es wx (hE.below hx) hbe
      have HT : Hid (∀ wx : World, Below w.heap.size w wx → Calls Try.prog 12 #[.agg #[x0, x1, x2, x3]] wx fun e w' => ∃ an ln cn ak lk ck, e = .returned (.agg #[.int .i64 t.kind, .string t.name, .slice an ln cn, .slice ak lk ck]) ∧ NewTy wx.heap.size w'.heap.size w' (n + 1) [.int .i64 t.kind, .string t.name, .slice an ln cn, .slice ak lk ck] t ∧ Below wx.heap.size wx w') := fun wx hx => lawsToTy (n + 1) _ t wx (h.below hx) hbt
      have HS : Hid (∀ (u : Value) (cs : List Value) (wx : World), EnvAt wx (n + 1) u es → TyAt wx (n + 1) cs t → Calls Try.prog 11 #[u, .agg cs.toArray] wx fun e w' => ∃ g cap r, e = .returned (.slice (some ⟨g, 0, none⟩) r.length cap) ∧ Held w' (.slice (some ⟨g, 0, none⟩) r.length cap) r ∧ r.length ≤ 1048577 ∧ (∀ x, x ∈ r ↔ Rch (n + 1) es t x) ∧ Below wx.heap.size wx w') := fun u cs wx h1 h2 => specReach n u es cs t wx h1 h2 hbk
      have HI : Hid (∀ (lo hi loE hiE : Nat) (u : Value) (cs : List Value) (wx : World), EnvIn wx (n + 1) loE hiE u es → hiE ≤ wx.heap.size → TyIn wx (n + 1) lo hi cs t → Calls Try.prog 13 #[u, .agg cs.toArray] wx fun e w' => ∃ ao cap r, e = .returned (.slice ao r.length cap) ∧ w'.ownsRow wx.heap.size 9 1 (.slice ao r.length cap) r.length (strV r) ∧ r.length ≤ 1048577 ∧ Asc r ∧ (∀ x, x ∈ r ↔ Rch (n + 1) es t x) ∧ Below wx.heap.size wx w') := fun lo hi loE hiE u cs wx h1 h2 h3 => implReach (n + 1) lo hi loE hiE u es cs t wx h1 h2 (TyIn.up h3) hbk
      have HEE : Hid (∀ (ua ub : Value) (wx : World), EnvAt wx (n + 1) ua es → EnvAt wx (n + 1) ub es → Calls Try.prog 9 #[ua, ub] wx fun e w' => e = .returned (.bool true) ∧ Below wx.heap.size wx w') := fun ua ub wx ha hb => lawsEqEnv (n + 1) ua ub es wx ha hb hbe
      have HE : Hid (∀ (ca cb : List Value) (wx : World), TyAt wx (n + 1) ca t → TyAt wx (n + 1) cb t → Calls Try.prog 15 #[.agg ca.toArray, .agg cb.toArray] wx fun e w' => e = .returned (.bool true) ∧ Below wx.heap.size wx w') := fun ca cb wx ha hb => lawsEqTy (n + 1) ca cb t wx ha hb hbt
      have HME : Hid (∀ (u : Value) (lo hi : Nat) (wx : World), EnvIn wx (n + 1) lo hi u es → hi ≤ wx.heap.size → Calls Try.prog 16 #[u, .int .i64 1] wx fun e w' => ∃ k : Nat, e = .returned (.int .i64 k) ∧ 1 ≤ k ∧ k ≤ 100000000 ∧ Only lo hi wx w') := fun u lo hi wx h h2 => (lawsMarkEnv (n + 1) u es lo hi 1 wx h h2 hbe (by omega) (by omega)).mono fun e w' hh => by
        obtain ⟨k, h1, h2, h3, h4⟩ := hh
        exact ⟨k, h1, h2, by omega, h4⟩
      have HMK : Hid (∀ (k0 : Nat) (cs : List Value) (lo hi : Nat) (wx : World), 1 ≤ k0 → k0 ≤ 100000000 → TyIn wx (n + 1) lo hi cs t → hi ≤ wx.heap.size → Calls Try.prog 17 #[.agg cs.toArray, .int .i64 k0] wx fun e w' => ∃ k : Nat, e = .returned (.int .i64 k) ∧ k0 ≤ k ∧ k ≤ 200000000 ∧ Only lo hi wx w') := fun k0 cs lo hi wx h1 h2 h hh => lawsMarkTy (n + 1) cs t lo hi k0 wx h hh hbt h1 h2
      clear h hE hz1 hkl
      generalize hBE : envBulk (n + 1) es = BE at *
      generalize hBT : Ty.bulk (n + 1) t = BT at *
      clear hBE hBT
      have hneg : ¬ (1048576 - (BE : Int) < 0) := by omega
      have hneg2 : ¬ (1048576 - (BE : Int) - (BT : Int) < 0) := by omega
      subst hW1
      go_enter Try.func4, Try.ntmps4
      go_wp2_with fail
      refine HZ.out.mono ?_
      rintro e wa ⟨rfl, D1⟩
      obtain ⟨⟨a0, a1, a2, a3⟩, hwa⟩ := HA.out wa D1
      have HZ2 := HZT.out (1048576 - (BE : Int)) wa (by omega) (by omega) hwa
      rw [hz2] at HZ2
      have HZ3 : Hid (type_of% HZ2) := HZ2
      clear HZ HZT HZ2 hz2
      go_wp2_with fail
      refine HZ3.out.mono ?_
      rintro e wb ⟨rfl, hbb⟩
      have D2 := D1.trans (hbb.mono D1.size)
      clear a0 a1 a2 a3 hwa HZ3 hbb D1
      obtain ⟨⟨a0, a1, a2, a3⟩, hwb⟩ := HA.out wb D2
      go_wp2_with fail
      go_region_with (first | (go_at_call 7; refine (HTE.out _ hwb.drew).mono ?_; rintro e wc ⟨rfl, hnc, hbc⟩; have D3 := D2.drew.trans (hbc.mono D2.size); obtain ⟨⟨c0, c1, c2, c3⟩, hwc⟩ := HA.out wc D3) | (go_at_call 12; refine (HT.out _ hwc).mono ?_; rintro e w2 ⟨an, ln, cn, ak, lk, ck, rfl, hn2, hb2⟩; have D4 := D3.trans (hb2.mono D3.size); have HS2 := HS.out _ _ w2 (hnc.at.below hb2) hn2.at) | (go_at_call 11; refine HS2.mono ?_; rintro e w3 ⟨gs, caps, r, rfl, hheld, hrl2, hrm, hb3⟩))
      all_goals
        have D5 := D4.trans (hb3.mono D4.size)
        try clear a0 a1 a2 a3
        try clear c0 c1 c2 c3
        have HRM : Hid (type_of% hrm) := hrm
        have HAR : Hid (Asc r) := hheld.asc
        have HTX : Hid (Texts w3 (.slice (some ⟨gs, 0, none⟩) r.length caps) r) := hheld.texts
        have HA3 : Hid (∀ wx : World, Below w3.heap.size w3 wx → (wx.cell? ⟨w.heap.size, 0, none⟩ = some x0 ∧ wx.cell? ⟨w.heap.size, 1, none⟩ = some x1 ∧ wx.cell? ⟨w.heap.size, 2, none⟩ = some x2 ∧ wx.cell? ⟨w.heap.size, 3, none⟩ = some x3) ∧ Below w.heap.size w wx ∧ Texts wx (.slice (some ⟨gs, 0, none⟩) r.length caps) r) := fun wx hx => by
          obtain ⟨h1, h2⟩ := HA.out wx (D5.trans (hx.mono D5.size))
          exact ⟨h1, h2, HTX.out.below hx⟩
        clear D4 hb3 hheld hrm HA HTX D5 HS2 HS hnc hbc hn2 hb2 hwc D3 hwb D2
        obtain ⟨⟨a0, a1, a2, a3⟩, hw3, _⟩ := HA3.out w3 (Below.refl _ _)
        go_wp2_with fail
        refine (HTE.out _ hw3).mono ?_
        rintro e wd ⟨rfl, hnd, hbd⟩
        clear a0 a1 a2 a3 hw3
        obtain ⟨⟨a0, a1, a2, a3⟩, hwd, _⟩ := HA3.out wd hbd
        go_wp2_with fail
        refine (HT.out _ hwd).mono ?_
        rintro e w4 ⟨bn, ln2, cn2, bk, lk2, ck2, rfl, hn4, hb4⟩
        have hzd : w3.heap.size ≤ wd.heap.size := hbd.size
        have hz4 : wd.heap.size ≤ w4.heap.size := hb4.size
        obtain ⟨W5, hW5⟩ : ∃ W5, W5 = w4.alloc (.cells #[.int .i64 t.kind, .string t.name, .slice bn ln2 cn2, .slice bk lk2 ck2] 37) := ⟨_, rfl⟩
        have h45 : Below w4.heap.size w4 W5 := by rw [hW5]; exact (Below.refl _ _).alloc (Nat.le_refl _) _
        have hs5 : W5.heap.size = w4.heap.size + 1 := by rw [hW5]; simp
        have B5 : Below w3.heap.size w3 W5 := (hbd.trans (hb4.mono hzd)).trans (h45.mono (by omega))
        have HJ : Hid (∀ wx : World, Above wd.heap.size W5 wx → (wx.cell? ⟨w4.heap.size, 0, none⟩ = some (.int .i64 t.kind) ∧ wx.cell? ⟨w4.heap.size, 1, none⟩ = some (.string t.name) ∧ wx.cell? ⟨w4.heap.size, 2, none⟩ = some (.slice bn ln2 cn2) ∧ wx.cell? ⟨w4.heap.size, 3, none⟩ = some (.slice bk lk2 ck2)) ∧ TyIn wx (n + 1) wd.heap.size w4.heap.size [.int .i64 t.kind, .string t.name, .slice bn ln2 cn2, .slice bk lk2 ck2] t) := fun wx hx => ⟨four_above (hW5 ▸ hx) hz4, hn4.2 wx ((Above.of_below h45).trans hx)⟩
        have HK : Hid (∀ wx : World, Below W5.heap.size W5 wx → EnvIn wx (n + 1) w3.heap.size wd.heap.size (.slice (some ⟨w3.heap.size, 0, none⟩) es.length es.length) es) := fun wx hx => hnd.2 wx (Above.of_below ((hb4.trans (h45.mono hz4)).trans (hx.mono (by omega))))
        obtain ⟨_, hq5⟩ := HJ.out W5 (Above.refl _ _)
        have HC2 : Hid (type_of% (HI.out _ _ _ _ _ _ W5 (HK.out W5 (Below.refl _ _)) (by omega) hq5)) := HI.out _ _ _ _ _ _ W5 (HK.out W5 (Below.refl _ _)) (by omega) hq5
        clear a0 a1 a2 a3 hwd hn4 hq5 hb4 hnd hbd h45
        go_wp2_with fail
        rw [← hW5]
        clear hW5
        refine HC2.out.mono ?_
        rintro e w6 ⟨ag, capg, r', rfl, O6, _, ha6, hm6, hb6⟩
        have hrr : r' = r := ha6.unique HAR.out fun x => by rw [hm6, HRM.out]
        subst hrr
        have B6 : Below w3.heap.size w3 w6 := B5.trans (hb6.mono (by omega))
        obtain ⟨⟨a0, a1, a2, a3⟩, hw6, T6⟩ := HA3.out w6 B6
        have HQ2 : Hid (type_of% (lawsEqL _ _ r' w6 (texts_ownR O6) T6 hrl2)) := lawsEqL _ _ r' w6 (texts_ownR O6) T6 hrl2
        have HO6 : Hid (type_of% O6) := O6
        clear T6 a0 a1 a2 a3 O6 HC2 B5 ha6 hm6 hw6
        go_wp2_with fail
        refine HQ2.out.mono ?_
        rintro e w7 ⟨rfl, hb7⟩
        have E7 : Below W5.heap.size W5 w7 := hb6.trans (hb7.mono hb6.size)
        have B7 : Below w3.heap.size w3 w7 := B6.trans (hb7.mono B6.size)
        have HO7 : Hid (w7.ownsRow W5.heap.size 9 1 (.slice ag r'.length capg) r'.length (strV r')) := kept_belowT HO6.out hb7
        clear HQ2 hb7 hb6 B6 HO6
        obtain ⟨⟨a0, a1, a2, a3⟩, hw7, _⟩ := HA3.out w7 B7
        go_wp2_with fail
        refine (HTE.out _ hw7).mono ?_
        rintro e wf ⟨rfl, hnf, hbf⟩
        have Ef : Below W5.heap.size W5 wf := E7.trans (hbf.mono E7.size)
        have Bf : Below w3.heap.size w3 wf := B7.trans (hbf.mono B7.size)
        have HOf : Hid (wf.ownsRow W5.heap.size 9 1 (.slice ag r'.length capg) r'.length (strV r')) := kept_belowT HO7.out hbf
        have HQ2 : Hid (type_of% (HEE.out _ _ wf (HK.out wf Ef).at hnf.at)) := HEE.out _ _ wf (HK.out wf Ef).at hnf.at
        clear a0 a1 a2 a3 hw7 E7 B7 HO7 hnf hbf
        go_wp2_with fail
        refine HQ2.out.mono ?_
        rintro e w8 ⟨rfl, hb8⟩
        have E8 : Below W5.heap.size W5 w8 := Ef.trans (hb8.mono Ef.size)
        have B8 : Below w3.heap.size w3 w8 := Bf.trans (hb8.mono Bf.size)
        have HO8 : Hid (w8.ownsRow W5.heap.size 9 1 (.slice ag r'.length capg) r'.length (strV r')) := kept_belowT HOf.out hb8
        clear HQ2 Ef Bf HOf hb8
        obtain ⟨⟨a0, a1, a2, a3⟩, hw8, _⟩ := HA3.out w8 B8
        obtain ⟨⟨b0, b1, b2, b3⟩, hq8⟩ := HJ.out w8 (Above.of_below E8)
        have HO8d : Hid (w8.drew.ownsRow W5.heap.size 9 1 (.slice ag r'.length capg) r'.length (strV r')) := HO8.out
        have hz8 := E8.size
        have hz38 := B8.size
        clear hq8
        go_wp2_with fail
        go_region_with (first | (go_at_call 12; refine (HT.out _ hw8.drew).mono ?_; rintro e wg ⟨dn, ln3, cn3, dk, lk3, ck3, rfl, hng, hbg⟩; have Eg := E8.drew.trans (hbg.mono hz8); have Bg := B8.drew.trans (hbg.mono hz38); have hzg := Nat.le_trans hz8 hbg.size; have HOg := kept_belowT HO8d.out hbg; obtain ⟨⟨c0, c1, c2, c3⟩, hqg⟩ := HJ.out wg (Above.of_below Eg)) | (go_at_call 15; refine (HE.out _ _ _ hqg.at hng.at).mono ?_; rintro e w9 ⟨rfl, hb9⟩))
        all_goals
          have E9 := Eg.trans (hb9.mono hzg)
          have hz3g : w3.heap.size ≤ wg.heap.size := Bg.size
          have B9 := Bg.trans (hb9.mono hz3g)
          have HO9 : Hid (w9.ownsRow W5.heap.size 9 1 (.slice ag r'.length capg) r'.length (strV r')) := kept_belowT HOg hb9
          have hz9 : W5.heap.size ≤ w9.heap.size := E9.size
          try clear a0 a1 a2 a3
          try clear b0 b1 b2 b3
          try clear c0 c1 c2 c3
          clear Eg Bg hzg HOg hqg hng hbg hb9 E8 B8 HO8 HO8d hz8 hz38 hw8 hz3g HE HEE
          have HM92 : Hid (type_of% (HME.out _ _ _ w9 (HK.out w9 E9) (by omega))) := HME.out _ _ _ w9 (HK.out w9 E9) (by omega)
          clear HME HK
          go_wp2_with fail
          refine HM92.out.mono ?_
          rintro e wh ⟨k1, rfl, hk11, hk12, onh⟩
          have Bh : Below w3.heap.size w3 wh := B9.trans (onh.below (Nat.le_refl _) B9.size)
          have Ah : Above wd.heap.size W5 wh := (Above.of_below E9).trans (above_only onh (Nat.le_refl _))
          have HOh : Hid (wh.ownsRow W5.heap.size 9 1 (.slice ag r'.length capg) r'.length (strV r')) := owns_onlyR HO9.out onh (by omega)
          have hzh : W5.heap.size ≤ wh.heap.size := Nat.le_trans hz9 onh.size
          obtain ⟨⟨b0, b1, b2, b3⟩, hqh⟩ := HJ.out wh Ah
          have HM2 : Hid (type_of% (HMK.out k1 _ _ _ wh hk11 hk12 hqh (by omega))) := HMK.out k1 _ _ _ wh hk11 hk12 hqh (by omega)
          clear HM92 hqh HMK HJ onh HO9 E9 B9 hz9 Ah
          go_wp2_with fail
          refine HM2.out.mono ?_
          rintro e w10 ⟨k, rfl, hk1, hk2, on10⟩
          have B10 : Below w3.heap.size w3 w10 := Bh.trans (on10.below hzd Bh.size)
          have O10 : w10.ownsRow W5.heap.size 9 1 (.slice ag r'.length capg) r'.length (strV r') := owns_onlyR HOh.out on10 (by omega)
          have hz10 : W5.heap.size ≤ w10.heap.size := Nat.le_trans hzh on10.size
          clear b0 b1 b2 b3 HM2 on10 HOh Bh hzh
          obtain ⟨_, _, T10⟩ := HA3.out w10 B10
          have HQ2 : Hid (type_of% (lawsEqL _ _ r' w10 (texts_ownR O10) T10 hrl2)) := lawsEqL _ _ r' w10 (texts_ownR O10) T10 hrl2
          have HO10 : Hid (type_of% O10) := O10
          have hkn : ¬ (k : Int) < 0 := by omega
          clear T10 O10
          go_wp2_with fail
          refine HQ2.out.mono ?_
          rintro e w11 ⟨rfl, hb11⟩
          have B11 : Below w3.heap.size w3 w11 := B10.trans (hb11.mono B10.size)
          have O11 := kept_belowT HO10.out hb11
          have hz11 : W5.heap.size ≤ w11.heap.size := Nat.le_trans hz10 hb11.size
          have HMN : Hid (Calls Try.prog 18 #[.slice ag r'.length capg, .int .i64 1] w11 fun e w' => e = .returned (.int .i64 ((1 + r'.length : Nat) : Int)) ∧ w'.ownsRow W5.heap.size 9 1 (.slice ag r'.length capg) r'.length (marksV 1 r'.length) ∧ Only W5.heap.size w11.heap.size w11 w') := lawsMarkN _ r'.length W5.heap.size W5.heap.size w11.heap.size 1 _ w11 O11 (fun g hg => O11.lt g hg) hrl2 (by omega) (by omega)
          clear HQ2 hb11 HO10 B10 hz10 O11
          go_wp2_with fail
          refine HMN.out.mono ?_
          rintro e w12 ⟨rfl, O12, on12⟩
          have B12 : Below w3.heap.size w3 w12 := B11.trans (on12.below (by omega) B11.size)
          have HHN : Hid (Calls Try.prog 19 #[.slice ag r'.length capg, .int .i64 1] w12 fun e w' => e = .returned (.int .i64 ((1 + r'.length : Nat) : Int)) ∧ Below w12.heap.size w12 w') := lawsHeldN _ r'.length W5.heap.size 1 w12 O12 hrl2 (by omega) (by omega)
          have HO12 : Hid (type_of% O12) := O12
          clear HMN on12 B11 O12 hz11
          go_wp2_with fail
          refine HHN.out.mono ?_
          rintro e w13 ⟨rfl, hb13⟩
          have B13 : Below w3.heap.size w3 w13 := B12.trans (hb13.mono B12.size)
          have HO13 : Hid (w13.ownsRow W5.heap.size 9 1 (.slice ag r'.length capg) r'.length (marksV 1 r'.length)) := kept_belowT HO12.out hb13
          have HO13d : Hid (w13.drew.ownsRow W5.heap.size 9 1 (.slice ag r'.length capg) r'.length (marksV 1 r'.length)) := HO13.out
          have hz13 := B13.size
          clear HHN hb13 HO12 B12
          obtain ⟨⟨a0, a1, a2, a3⟩, hw13, _⟩ := HA3.out w13 B13
          go_wp2_with fail
          go_region_with (first | (go_at_call 7; refine (HTE.out _ hw13.drew).mono ?_; rintro e wp ⟨rfl, hnp, hbp⟩; have Bp := B13.drew.trans (hbp.mono hz13); have HOp := kept_belowT HO13d.out hbp; obtain ⟨⟨c0, c1, c2, c3⟩, hwp, _⟩ := HA3.out wp Bp) | (go_at_call 12; refine (HT.out _ hwp).mono ?_; rintro e w14 ⟨fn, ln4, cn4, fk, lk4, ck4, rfl, hn14, hb14⟩; have B14 := Bp.trans (hb14.mono Bp.size); have HO14 := kept_belowT HOp hb14; have hC14 := HI.out _ _ _ _ _ _ w14 (hnp.2 w14 (Above.of_below hb14)) hb14.size hn14.own) | (go_at_call 13; refine hC14.mono ?_; rintro e w15 ⟨ah, caph, r2, rfl, ho15, _, ha15, hm15, hb15⟩))
          all_goals
            have hr2 : r2 = r' := ha15.unique HAR.out fun x => by rw [hm15, HRM.out]
            subst hr2
            have B15 : Below w3.heap.size w3 w15 := B14.trans (hb15.mono B14.size)
            have HO15 : Hid (w15.ownsRow W5.heap.size 9 1 (.slice ag r2.length capg) r2.length (marksV 1 r2.length)) := kept_belowT HO14 hb15
            obtain ⟨_, _, T15⟩ := HA3.out w15 B15
            have HQ2 : Hid (type_of% (lawsEqL _ _ r2 w15 (texts_ownR ho15) T15 hrl2)) := lawsEqL _ _ r2 w15 (texts_ownR ho15) T15 hrl2
            try clear a0 a1 a2 a3
            try clear c0 c1 c2 c3
            clear T15 ho15 ha15 hm15 hb15 B14 HO14 hC14 hn14 hb14 HOp Bp hnp hbp hwp HO13 HO13d B13 hw13 HI HT HTE
            go_wp2_with fail
            refine HQ2.out.mono ?_
            rintro e w16 ⟨rfl, hb16⟩
            have B16 : Below w3.heap.size w3 w16 := B15.trans (hb16.mono B15.size)
            have O16 := kept_belowT HO15.out hb16
            have HHN : Hid (Calls Try.prog 19 #[.slice ag r2.length capg, .int .i64 1] w16 fun e w' => e = .returned (.int .i64 ((1 + r2.length : Nat) : Int)) ∧ Below w16.heap.size w16 w') := lawsHeldN _ r2.length W5.heap.size 1 w16 O16 hrl2 (by omega) (by omega)
            clear HQ2 hb16 B15 HO15 O16
            go_wp2_with fail
            refine HHN.out.mono ?_
            rintro e w17 ⟨rfl, hb17⟩
            have B17 : Below w3.heap.size w3 w17 := B16.trans (hb17.mono B16.size)
            obtain ⟨_, hw17, _⟩ := HA3.out w17 B17
            clear HHN hb17 B16
            go_wp2_with fail
            go_ret
            exact ⟨rfl, hw17⟩
    · have hz2 : leftOf (Ty.bulk (n + 1) t) (1048576 - (envBulk (n + 1) es : Nat)) = -1 := if_neg (by omega)
      generalize hBE : envBulk (n + 1) es = BE at *
      have hneg : ¬ (1048576 - (BE : Int) < 0) := by omega
      clear h hE hz1 hkl
      subst hW1
      go_enter Try.func4, Try.ntmps4
      go_wp2_with fail
      refine HZ.out.mono ?_
      rintro e wa ⟨rfl, D1⟩
      obtain ⟨⟨a0, a1, a2, a3⟩, hwa⟩ := HA.out wa D1
      have HZ2 := HZT.out (1048576 - (BE : Int)) wa (by omega) (by omega) hwa
      rw [hz2] at HZ2
      have HZ3 : Hid (type_of% HZ2) := HZ2
      clear HZ HZT HZ2 hz2
      go_wp2_with fail
      refine HZ3.out.mono ?_
      rintro e wb ⟨rfl, hbb⟩
      obtain ⟨_, hwb⟩ := HA.out wb (D1.trans (hbb.mono D1.size))
      go_wp2_with fail
      go_ret
      exact ⟨rfl, hwb⟩
  · have hz1 : leftOf (envBulk (n + 1) es) 1048576 = -1 := if_neg (by omega)
    rw [hz1] at HZ
    clear h hE hz1 hkl HZT
    subst hW1
    go_enter Try.func4, Try.ntmps4
    go_wp2_with fail
    refine HZ.out.mono ?_
    rintro e wa ⟨rfl, D1⟩
    obtain ⟨_, hwa⟩ := HA.out wa D1
    go_wp2_with fail
    go_ret
    exact ⟨rfl, hwa⟩

end Go.Proofs.Yteocagdlbnhpgaa

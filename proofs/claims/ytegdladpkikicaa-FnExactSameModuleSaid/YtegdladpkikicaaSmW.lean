/-
  The walk of the law FnExactSameModule.
-/
import Derived.Test.YtegdladpkikicaaXpZ
import Derived.Test.YtegdladpkikicaaXpE
import Derived.Test.YtegdladpkikicaaXpU
import Derived.Test.YtegdladpkikicaaSmL
import Derived.Test.YtegdladpkikicaaSmU
import Derived.Deep.CutRange
import Derived.Deep.RegionWith
namespace Go.Proofs.Ytegdladpkikicaa
open Go.RowKit

def TwoM (w : World) (b : Nat) (x0 x1 : Value) : Prop := w.cell? ⟨b, 0, none⟩ = some x0 ∧ w.cell? ⟨b, 1, none⟩ = some x1
theorem twoM_of {w : World} {b : Nat} {x0 x1 : Value} {t : TypeId} (hr : w.heap[b]? = some (.cells #[x0, x1] t (0, 0))) : TwoM w b x0 x1 :=
  ⟨by rw [cell_of_row _ _ 0 _ _ (0, 0) hr]; rfl, by rw [cell_of_row _ _ 1 _ _ (0, 0) hr]; rfl⟩
theorem twoM_new {w wx : World} {b : Nat} {x0 x1 : Value} {t : TypeId} (h : b = w.heap.size) (hb : Below (b + 1) (w.alloc (.cells #[x0, x1] t)) wx) : TwoM wx b x0 x1 := by
  subst h
  exact twoM_of ((hb.block _ (by omega)).trans (MapKept.heap_alloc w _).1)

set_option maxHeartbeats 6400000 in
set_option maxRecDepth 100000 in
open Classical in
theorem walkSameMd (n : Nat) (vi vd vi' vd' : Value) (im im' : List ByteArray) (ds es : List Df) (w : World) (hA : MdAt w n vi vd im ds) (hB : MdAt w n vi' vd' im' es) :
    Calls Try.prog 3 #[.agg #[vi, vd], .agg #[vi', vd']] w fun e w' => e = .returned (.bool true) ∧ Below w.heap.size w w' := by
  obtain ⟨aa, ac, rfl, _⟩ := hA.ds.2.open (fun cs t h => by rw [h.len]; decide)
  obtain ⟨ba, bc, rfl, _⟩ := hB.ds.2.open (fun cs t h => by rw [h.len]; decide)
  have hB1 : Below w.heap.size w ((w.alloc (.cells #[vi, .slice aa ds.length ac] 25)).alloc (.cells #[vi', .slice ba es.length bc] 25)) := ((Below.refl _ _).alloc (Nat.le_refl _) _).alloc (by simp) _
  have HA : Hid (∀ X : World, Below (w.heap.size + 1 + 1) ((w.alloc (.cells #[vi, .slice aa ds.length ac] 25)).alloc (.cells #[vi', .slice ba es.length bc] 25)) X → TwoM X w.heap.size vi (.slice aa ds.length ac) ∧ TwoM X (w.heap.size + 1) vi' (.slice ba es.length bc) ∧ Below w.heap.size w X) := fun X hX => by
    have hr := (hX.block w.heap.size (by omega)).trans ((Below.heap_alloc _ _ _ (by simp)).trans (MapKept.heap_alloc w (.cells #[vi, .slice aa ds.length ac] 25)).1)
    have hs0 := (MapKept.heap_alloc (w.alloc (.cells #[vi, .slice aa ds.length ac] 25)) (.cells #[vi', .slice ba es.length bc] 25)).1
    rw [show (w.alloc (.cells #[vi, .slice aa ds.length ac] 25)).heap.size = w.heap.size + 1 from by simp] at hs0
    have hs := (hX.block (w.heap.size + 1) (by omega)).trans hs0
    exact ⟨twoM_of hr, twoM_of hs, hB1.trans (hX.mono (by omega))⟩
  have HZ : Hid (type_of% (lawsSzMd n vi _ im ds 1048576 _ (hA.below hB1) (by decide) (by decide))) := lawsSzMd n vi _ im ds 1048576 _ (hA.below hB1) (by decide) (by decide)
  by_cases hbk : (mdBulk n im ds : Int) ≤ 1048576
  · rw [leftA_yes hbk] at HZ
    have HZ2 : Hid (∀ X : World, Below w.heap.size w X → Calls Try.prog 4 #[.agg #[vi', .slice ba es.length bc], .int .i64 (1048576 - (mdBulk n im ds : Nat))] X fun e w' => e = .returned (.int .i64 (leftA (mdBulk n im' es) (1048576 - (mdBulk n im ds : Nat)))) ∧ Below X.heap.size X w') := fun X hX => lawsSzMd n vi' _ im' es _ X (hB.below hX) (by omega) (by omega)
    by_cases hbk2 : (mdBulk n im' es : Int) ≤ 1048576 - (mdBulk n im ds : Nat)
    · rw [leftA_yes hbk2] at HZ2
      have HTA : Hid (∀ X : World, Below w.heap.size w X → Calls Try.prog 6 #[.agg #[vi, .slice aa ds.length ac]] X fun e w' => ∃ g0 g1 : Nat, e = .returned (.agg #[.slice (some ⟨g0, 0, none⟩) im.length im.length, .slice (some ⟨g1, 0, none⟩) ds.length ds.length]) ∧ MdW w' n (.slice (some ⟨g0, 0, none⟩) im.length im.length) (.slice (some ⟨g1, 0, none⟩) ds.length ds.length) im ds ∧ Below X.heap.size X w') := fun X hX => lawsToMd n vi _ im ds X (hA.below hX) (by omega)
      have HTB : Hid (∀ X : World, Below w.heap.size w X → Calls Try.prog 6 #[.agg #[vi', .slice ba es.length bc]] X fun e w' => ∃ g0 g1 : Nat, e = .returned (.agg #[.slice (some ⟨g0, 0, none⟩) im'.length im'.length, .slice (some ⟨g1, 0, none⟩) es.length es.length]) ∧ MdW w' n (.slice (some ⟨g0, 0, none⟩) im'.length im'.length) (.slice (some ⟨g1, 0, none⟩) es.length es.length) im' es ∧ Below X.heap.size X w') := fun X hX => lawsToMd n vi' _ im' es X (hB.below hX) (by omega)
      have HS : Hid (∀ (ai bi : Value) (p q : Option Addr) (c d : Nat) (X : World), MdAt X n ai (.slice p ds.length c) im ds → MdAt X n bi (.slice q es.length d) im' es → Calls Try.prog 5 #[.agg #[ai, .slice p ds.length c], .agg #[bi, .slice q es.length d]] X fun e w' => e = .returned (.bool (decide (MdSame im im' ds es))) ∧ Below X.heap.size X w') := fun ai bi p q c d X h1 h2 => specSameModule n ai bi p q c d im im' ds es X h1 h2 (by omega)
      have HI : Hid (∀ (ai bi : Value) (p q : Option Addr) (c d : Nat) (X : World), MdW X n ai (.slice p ds.length c) im ds → MdW X n bi (.slice q es.length d) im' es → Calls Try.prog 7 #[.agg #[ai, .slice p ds.length c], .agg #[bi, .slice q es.length d]] X fun e w' => e = .returned (.bool (decide (MdSame im im' ds es))) ∧ Below X.heap.size X w') := fun ai bi p q c d X h1 h2 => implSameModule n ai bi p q c d im im' ds es X h1 h2 (by omega)
      have HEA : Hid (∀ (ai ad bi bd : Value) (X : World), MdAt X n ai ad im ds → MdAt X n bi bd im ds → Calls Try.prog 8 #[.agg #[ai, ad], .agg #[bi, bd]] X fun e w' => e = .returned (.bool true) ∧ Below X.heap.size X w') := fun ai ad bi bd X h1 h2 => lawsEqMd n ai ad bi bd im ds X h1 h2 (by omega)
      have HEB : Hid (∀ (ai ad bi bd : Value) (X : World), MdAt X n ai ad im' es → MdAt X n bi bd im' es → Calls Try.prog 8 #[.agg #[ai, ad], .agg #[bi, bd]] X fun e w' => e = .returned (.bool true) ∧ Below X.heap.size X w') := fun ai ad bi bd X h1 h2 => lawsEqMd n ai ad bi bd im' es X h1 h2 (by omega)
      generalize decide (MdSame im im' ds es) = r at *
      have hr : (r != r) = false := by cases r <;> rfl
      have hneg1 : ¬ (1048576 - (mdBulk n im ds : Int) < 0) := by omega
      have hneg2 : ¬ (1048576 - (mdBulk n im ds : Int) - (mdBulk n im' es : Int) < 0) := by omega
      clear hbk hbk2 hA hB
      generalize (mdBulk n im ds : Int) = B1 at *
      generalize (mdBulk n im' es : Int) = B2 at *
      go_enter Try.func3, Try.ntmps3
      go_wp2_with fail
      refine HZ.out.mono ?_
      rintro e w1 ⟨rfl, hb1⟩
      have D1 : Below (w.heap.size + 1 + 1) ((w.alloc (.cells #[vi, .slice aa ds.length ac] 25)).alloc (.cells #[vi', .slice ba es.length bc] 25)) w1 := hb1.mono (by simp)
      have z1 : w.heap.size + 1 + 1 ≤ w1.heap.size := by have := D1.size; simpa using this
      clear HZ hb1
      obtain ⟨⟨y0, y1⟩, ⟨y2, y3⟩, q1⟩ := HA.out w1 D1
      go_wp2_with fail
      refine (HZ2.out _ q1).mono ?_
      rintro e w2 ⟨rfl, hb2⟩
      have D2 := D1.trans (hb2.mono z1)
      have z2 : w.heap.size + 1 + 1 ≤ w2.heap.size := Nat.le_trans z1 hb2.size
      clear HZ2 hb2 y0 y1 y2 y3 q1 D1 z1
      obtain ⟨⟨y0, y1⟩, ⟨y2, y3⟩, q2⟩ := HA.out w2 D2
      go_upto_region 8 with fail
      go_cut [6] from 20 to 24 (fun b X => b = .bool r ∧ Below (w.heap.size + 1 + 1) ((w.alloc (.cells #[vi, .slice aa ds.length ac] 25)).alloc (.cells #[vi', .slice ba es.length bc] 25)) X)
      case first =>
        go_region_with (first | (revert m3'; intro m3'; go_at_call 5; refine (HS.out _ _ _ _ _ _ _ m3'.at m4.at).mono ?_; rintro e w5 ⟨rfl, hb5⟩; have D5 := D4.trans (hb5.mono z4)) | (revert q3; intro q3; go_at_call 6; refine (HTB.out _ q3).mono ?_; rintro e w4 ⟨g2, g3, rfl, m4, hb4⟩; have D4 := D3.trans (hb4.mono z3); have z4 : w.heap.size + 1 + 1 ≤ w4.heap.size := Nat.le_trans z3 hb4.size; have m3' := m3.below hb4) | (go_at_call 6; refine (HTA.out _ q2.drew).mono ?_; rintro e w3 ⟨g0, g1, rfl, m3, hb3⟩; have D3 := D2.drew.trans (hb3.mono z2); have z3 : w.heap.size + 1 + 1 ≤ w3.heap.size := Nat.le_trans z2 hb3.size; obtain ⟨⟨x0, x1⟩, ⟨x2, x3⟩, q3⟩ := HA.out w3 D3))
        all_goals
          go_wp2_with fail
          go_meet
          exact ⟨rfl, D5⟩
      case rest =>
        obtain ⟨rfl, D3⟩ := hcut
        obtain ⟨w3, rfl⟩ : ∃ X, X = wc := ⟨_, rfl⟩
        have z3 : w.heap.size + 1 + 1 ≤ w3.heap.size := by have := D3.size; simpa using this
        clear y0 y1 y2 y3 q2 D2 z2 HS
        obtain ⟨⟨y0, y1⟩, ⟨y2, y3⟩, q3⟩ := HA.out w3 D3
        go_wp2_with fail
        refine (HTA.out _ q3).mono ?_
        rintro e w4 ⟨g0, g1, rfl, m4, hb4⟩
        have D4 := D3.trans (hb4.mono z3)
        have z4 : w.heap.size + 1 + 1 ≤ w4.heap.size := Nat.le_trans z3 hb4.size
        clear y0 y1 y2 y3 q3 D3 z3 hb4
        have b4 : Below w4.heap.size w4 (w4.alloc (.cells #[.slice (some ⟨g0, 0, none⟩) im.length im.length, .slice (some ⟨g1, 0, none⟩) ds.length ds.length] 30)) := (Below.refl _ _).alloc (Nat.le_refl _) _
        have D5 := D4.alloc z4 (.cells #[.slice (some ⟨g0, 0, none⟩) im.length im.length, .slice (some ⟨g1, 0, none⟩) ds.length ds.length] 30)
        have HX : Hid (∀ X : World, Below (w4.heap.size + 1) (w4.alloc (.cells #[.slice (some ⟨g0, 0, none⟩) im.length im.length, .slice (some ⟨g1, 0, none⟩) ds.length ds.length] 30)) X → TwoM X w4.heap.size (.slice (some ⟨g0, 0, none⟩) im.length im.length) (.slice (some ⟨g1, 0, none⟩) ds.length ds.length) ∧ MdW X n (.slice (some ⟨g0, 0, none⟩) im.length im.length) (.slice (some ⟨g1, 0, none⟩) ds.length ds.length) im ds) := fun X hX => ⟨twoM_new rfl hX, (m4.below b4).below (hX.mono (by simp))⟩
        have z5 : w.heap.size + 1 + 1 ≤ w4.heap.size + 1 := by omega
        have z5' : w4.heap.size + 1 ≤ (w4.alloc (.cells #[.slice (some ⟨g0, 0, none⟩) im.length im.length, .slice (some ⟨g1, 0, none⟩) ds.length ds.length] 30)).heap.size := by simp
        clear m4 b4 D4 z4
        obtain ⟨⟨y0, y1⟩, ⟨y2, y3⟩, q5⟩ := HA.out _ D5
        go_wp2_with fail
        refine (HTB.out _ q5).mono ?_
        rintro e w6 ⟨g2, g3, rfl, m6, hb6⟩
        have D6 := D5.trans (hb6.mono (Nat.le_trans z5 z5'))
        have E6 : Below (w4.heap.size + 1) (w4.alloc (.cells #[.slice (some ⟨g0, 0, none⟩) im.length im.length, .slice (some ⟨g1, 0, none⟩) ds.length ds.length] 30)) w6 := hb6.mono z5'
        have z6 : w4.heap.size + 1 ≤ w6.heap.size := Nat.le_trans z5' hb6.size
        clear y0 y1 y2 y3 q5 D5 hb6 z5'
        have b6 : Below w6.heap.size w6 (w6.alloc (.cells #[.slice (some ⟨g2, 0, none⟩) im'.length im'.length, .slice (some ⟨g3, 0, none⟩) es.length es.length] 30)) := (Below.refl _ _).alloc (Nat.le_refl _) _
        have D7 := D6.alloc (Nat.le_trans z5 z6) (.cells #[.slice (some ⟨g2, 0, none⟩) im'.length im'.length, .slice (some ⟨g3, 0, none⟩) es.length es.length] 30)
        have E7 := E6.alloc z6 (.cells #[.slice (some ⟨g2, 0, none⟩) im'.length im'.length, .slice (some ⟨g3, 0, none⟩) es.length es.length] 30)
        have HY : Hid (∀ X : World, Below (w6.heap.size + 1) (w6.alloc (.cells #[.slice (some ⟨g2, 0, none⟩) im'.length im'.length, .slice (some ⟨g3, 0, none⟩) es.length es.length] 30)) X → TwoM X w6.heap.size (.slice (some ⟨g2, 0, none⟩) im'.length im'.length) (.slice (some ⟨g3, 0, none⟩) es.length es.length) ∧ MdW X n (.slice (some ⟨g2, 0, none⟩) im'.length im'.length) (.slice (some ⟨g3, 0, none⟩) es.length es.length) im' es) := fun X hX => ⟨twoM_new rfl hX, (m6.below b6).below (hX.mono (by simp))⟩
        have F7 : Below (w6.heap.size + 1) (w6.alloc (.cells #[.slice (some ⟨g2, 0, none⟩) im'.length im'.length, .slice (some ⟨g3, 0, none⟩) es.length es.length] 30)) (w6.alloc (.cells #[.slice (some ⟨g2, 0, none⟩) im'.length im'.length, .slice (some ⟨g3, 0, none⟩) es.length es.length] 30)) := Below.refl _ _
        have z7' : w6.heap.size + 1 ≤ (w6.alloc (.cells #[.slice (some ⟨g2, 0, none⟩) im'.length im'.length, .slice (some ⟨g3, 0, none⟩) es.length es.length] 30)).heap.size := by simp
        clear m6 b6 D6 E6
        have HC := HI.out _ _ _ _ _ _ _ (HX.out _ E7).2 (HY.out _ F7).2
        have HC' : Hid (type_of% HC) := HC
        clear HC HI
        obtain ⟨x0, x1⟩ := (HX.out _ E7).1
        obtain ⟨x2, x3⟩ := (HY.out _ F7).1
        go_wp2_with fail
        refine HC'.out.mono ?_
        rintro e w8 ⟨rfl, hb8⟩
        have D8 := D7.trans (hb8.mono (Nat.le_trans z5 (Nat.le_trans z6 (Nat.le_trans (Nat.le_succ _) z7'))))
        have E8 := E7.trans (hb8.mono (Nat.le_trans z6 (Nat.le_trans (Nat.le_succ _) z7')))
        have F8 := F7.trans (hb8.mono z7')
        have zz : w6.heap.size + 1 ≤ w8.heap.size := Nat.le_trans z7' hb8.size
        clear x0 x1 x2 x3 HC' D7 E7 F7 hb8 z7'
        obtain ⟨⟨y0, y1⟩, ⟨y2, y3⟩, q8⟩ := HA.out _ D8
        obtain ⟨⟨x0, x1⟩, mx8⟩ := HX.out _ E8
        obtain ⟨⟨x2, x3⟩, my8⟩ := HY.out _ F8
        have zD : w.heap.size + 1 + 1 ≤ w8.heap.size := by omega
        have zE : w4.heap.size + 1 ≤ w8.heap.size := by omega
        clear z5 z6
        go_wp2_with fail
        go_region_with (first | (revert mx9; intro mx9; go_at_call 8; refine (HEA.out _ _ _ _ _ mx9.at m9.at).mono ?_; rintro e w10 ⟨rfl, hb10⟩; have D10 := D9.trans (hb10.mono zD9); have F10 := F9.trans (hb10.mono z9); have z10 := Nat.le_trans z9 hb10.size; have zD10 := Nat.le_trans zD9 hb10.size) | (go_at_call 6; refine (HTA.out _ q8.drew).mono ?_; rintro e w9 ⟨h0, h1, rfl, m9, hb9⟩; have D9 := D8.drew.trans (hb9.mono zD); have E9 := E8.drew.trans (hb9.mono zE); have F9 := F8.drew.trans (hb9.mono zz); have z9 := Nat.le_trans zz hb9.size; have zD9 := Nat.le_trans zD hb9.size; obtain ⟨⟨v0, v1⟩, mx9⟩ := HX.out _ E9))
        all_goals
          obtain ⟨⟨s0, s1⟩, ⟨s2, s3⟩, q10⟩ := HA.out _ D10
          obtain ⟨⟨t2, t3⟩, my10⟩ := HY.out _ F10
          clear x0 x1 x2 x3 y0 y1 y2 y3 v0 v1 q8 mx8 my8
          go_wp2_with fail
          go_region_with (first | (revert my11; intro my11; go_at_call 8; refine (HEB.out _ _ _ _ _ my11.at m11.at).mono ?_; rintro e w12 ⟨rfl, hb12⟩; have q12 := q11.trans (hb12.mono q11.size)) | (go_at_call 6; refine (HTB.out _ q10.drew).mono ?_; rintro e w11 ⟨h2, h3, rfl, m11, hb11⟩; have q11 := q10.drew.trans (hb11.mono q10.size); have F11 := F10.drew.trans (hb11.mono z10); obtain ⟨⟨v2, v3⟩, my11⟩ := HY.out _ F11))
          all_goals
            go_wp2_with fail
            go_ret
            exact ⟨rfl, q12⟩
    · rw [leftA_no hbk2] at HZ2
      have hneg1 : ¬ (1048576 - (mdBulk n im ds : Int) < 0) := by omega
      clear hbk hbk2 hA hB
      generalize (mdBulk n im ds : Int) = B1 at *
      go_enter Try.func3, Try.ntmps3
      go_wp2_with fail
      refine HZ.out.mono ?_
      rintro e w1 ⟨rfl, hb1⟩
      have D1 : Below (w.heap.size + 1 + 1) ((w.alloc (.cells #[vi, .slice aa ds.length ac] 25)).alloc (.cells #[vi', .slice ba es.length bc] 25)) w1 := hb1.mono (by simp)
      have z1 : w.heap.size + 1 + 1 ≤ w1.heap.size := by have := D1.size; simpa using this
      clear HZ hb1
      obtain ⟨⟨y0, y1⟩, ⟨y2, y3⟩, q1⟩ := HA.out w1 D1
      go_wp2_with fail
      refine (HZ2.out _ q1).mono ?_
      rintro e w2 ⟨rfl, hb2⟩
      go_wp2_with fail
      go_ret
      exact ⟨rfl, q1.trans (hb2.mono (by omega))⟩
  · rw [leftA_no hbk] at HZ
    clear hbk hA hB
    go_enter Try.func3, Try.ntmps3
    go_wp2_with fail
    refine HZ.out.mono ?_
    rintro e w1 ⟨rfl, hb1⟩
    go_wp2_with fail
    go_ret
    exact ⟨rfl, hB1.trans (hb1.mono (by simp; omega))⟩

end Go.Proofs.Ytegdladpkikicaa

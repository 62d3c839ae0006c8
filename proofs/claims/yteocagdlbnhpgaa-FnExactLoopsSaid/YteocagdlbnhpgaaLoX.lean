/-
  The body of the law of Loops.
-/
import Derived.Test.YteocagdlbnhpgaaLoT
import Derived.Test.YteocagdlbnhpgaaNmSz
import Derived.Test.YteocagdlbnhpgaaNmEq
namespace Go.Proofs.Yteocagdlbnhpgaa
open Go.RowKit

set_option maxHeartbeats 3200000 in
set_option maxRecDepth 100000 in
theorem walkLoops (n : Nat) (v : Value) (es : List (ByteArray × Ty)) (s : ByteArray) (w : World) (hE : EnvAt w (n + 1) v es) (hkl : es.length ≤ maxLen) (hs : s.size ≤ maxLen) :
    Calls Try.prog 3 #[v, .string s] w fun e w' => e = .returned (.bool true) ∧ Below w.heap.size w w' := by
  have HZ : Hid (Calls Try.prog 5 #[v, .int .i64 1048576] w fun e w' => e = .returned (.int .i64 (leftOf (envBulk (n + 1) es) 1048576)) ∧ Below w.heap.size w w') := lawsSzEnv (n + 1) v es 1048576 _ hE hkl (by omega) (by omega)
  obtain ⟨av, capv, rfl, _⟩ := envOpen hE
  by_cases hsz : s.size ≤ 1048576
  · have hsi : ¬ (1048576 : Int) < (s.size : Int) := by omega
    by_cases hbe : envBulk (n + 1) es ≤ 1048576
    · have hz1 : leftOf (envBulk (n + 1) es) 1048576 = 1048576 - (envBulk (n + 1) es : Nat) := if_pos (by omega)
      rw [hz1] at HZ
      have HTE : Hid (∀ wx : World, Below w.heap.size w wx → Calls Try.prog 7 #[.slice av es.length capv] wx fun e w' => e = .returned (.slice (some ⟨wx.heap.size, 0, none⟩) es.length es.length) ∧ NewEnv wx.heap.size w'.heap.size w' (n + 1) (.slice (some ⟨wx.heap.size, 0, none⟩) es.length es.length) es ∧ Below wx.heap.size wx w') := fun wx hx => lawsToEnv (n + 1) _ es wx (hE.below hx) hbe
      have HS : Hid (∀ (u : Value) (wx : World), EnvAt wx (n + 1) u es → Calls Try.prog 6 #[u, .string s] wx fun e w' => ∃ b : Bool, e = .returned (.bool b) ∧ (b = true ↔ ¬ Good es (nameTy s)) ∧ Below wx.heap.size wx w') := fun u wx h1 => specLoops n u es s wx h1 hs hbe
      have HI : Hid (∀ (loE hiE : Nat) (u : Value) (wx : World), EnvIn wx (n + 1) loE hiE u es → hiE ≤ wx.heap.size → Calls Try.prog 8 #[u, .string s] wx fun e w' => ∃ b : Bool, e = .returned (.bool b) ∧ (b = true ↔ ¬ Good es (nameTy s)) ∧ Below wx.heap.size wx w') := fun loE hiE u wx h1 h2 => implLoops (n + 1) loE hiE u es s wx h1 h2 hbe
      have HEE : Hid (∀ (ua ub : Value) (wx : World), EnvAt wx (n + 1) ua es → EnvAt wx (n + 1) ub es → Calls Try.prog 9 #[ua, ub] wx fun e w' => e = .returned (.bool true) ∧ Below wx.heap.size wx w') := fun ua ub wx ha hb => lawsEqEnv (n + 1) ua ub es wx ha hb hbe
      clear hE hz1 hkl
      generalize hBE : envBulk (n + 1) es = BE at *
      clear hBE
      have hneg : ¬ (1048576 - (BE : Int) < 0) := by omega
      go_enter Try.func3, Try.ntmps3
      go_wp2_with fail
      refine HZ.out.mono ?_
      rintro e wa ⟨rfl, D1⟩
      clear HZ
      go_wp2_with fail
      refine (HTE.out _ D1).mono ?_
      rintro e wb ⟨rfl, hnb, hbb⟩
      have D2 := D1.trans (hbb.mono D1.size)
      have HS2 : Hid (type_of% (HS.out _ wb hnb.at)) := HS.out _ wb hnb.at
      clear hnb hbb HS
      go_wp2_with fail
      refine HS2.out.mono ?_
      rintro e wc ⟨b1, rfl, hb1, hbc⟩
      have D3 := D2.trans (hbc.mono D2.size)
      clear HS2 hbc D1 D2
      go_wp2_with fail
      refine (HTE.out _ D3).mono ?_
      rintro e wd ⟨rfl, hnd, hbd⟩
      have D4 := D3.trans (hbd.mono D3.size)
      have HI2 : Hid (type_of% (HI.out _ _ _ wd (hnd.2 wd (Above.refl _ _)) (Nat.le_refl _))) := HI.out _ _ _ wd (hnd.2 wd (Above.refl _ _)) (Nat.le_refl _)
      have HND : Hid (type_of% hnd) := hnd
      clear hnd HI hbd
      go_wp2_with fail
      refine HI2.out.mono ?_
      rintro e we ⟨b2, rfl, hb2, hbe2⟩
      have hbb : b2 = b1 := by rw [Bool.eq_iff_iff, hb1, hb2]
      subst hbb
      have D5 := D4.trans (hbe2.mono D4.size)
      have HN5 : Hid (type_of% (HND.out.at.below hbe2)) := HND.out.at.below hbe2
      clear HI2 HND hbe2 D4 hb1 hb2
      go_wp2_with fail
      refine (HTE.out _ D5).mono ?_
      rintro e wf ⟨rfl, hnf, hbf⟩
      have D6 := D5.trans (hbf.mono D5.size)
      have HE2 : Hid (type_of% (HEE.out _ _ wf (HN5.out.below hbf) hnf.at)) := HEE.out _ _ wf (HN5.out.below hbf) hnf.at
      clear HN5 hnf hbf HEE HTE D3 D5
      go_wp2_with fail
      refine HE2.out.mono ?_
      rintro e wg ⟨rfl, hbg⟩
      have D7 := D6.trans (hbg.mono D6.size)
      go_wp2_with fail
      go_ret
      exact ⟨rfl, D7⟩
    · have hz1 : leftOf (envBulk (n + 1) es) 1048576 = -1 := if_neg (by omega)
      rw [hz1] at HZ
      clear hz1 hE
      go_enter Try.func3, Try.ntmps3
      go_wp2_with fail
      refine HZ.out.mono ?_
      rintro e wa ⟨rfl, D1⟩
      go_wp2_with fail
      go_ret
      exact ⟨rfl, D1⟩
  · have hsi : (1048576 : Int) < (s.size : Int) := by omega
    go_enter Try.func3, Try.ntmps3
    go_wp2_with fail
    go_ret
    exact ⟨rfl, Below.refl _ _⟩

end Go.Proofs.Yteocagdlbnhpgaa

/-
  At every text impl.GetTexts answers as the specification does (the law itself passes texts of more than 1048576 bytes by), its answer is memory of its own, and nothing that was there has turned. No condition.
-/
import Derived.Test.YticcdaohpbkjeaaMarkS
import Derived.ProofKit
import Derived.OpenShut
import Derived.ShutString
import Derived.ChangeOld
namespace Go.Proofs.Yticcdaohpbkjeaa.exactGetTexts
open Go.ChangeShapes Go.WideShapes Go.ChangeAt Go.RowKit
open Go.ChangeMaps (open_string shut_string)

theorem own : ownKnob Try.prog.godebug = none := by kernel_rfl

theorem getTsL_len (s : ByteArray) (n : Nat) (a : Int) (y : List ByteArray × Int) (h : getTsL s n a = some y) : y.1.length = n := by
  induction n generalizing a y with
  | zero => simp [getTsL] at h; rw [← h]; rfl
  | succ n ih =>
    rw [getTsL] at h
    by_cases hp : (getTI s a).2 < 0
    · rw [if_pos hp] at h; simp at h
    · rw [if_neg hp] at h
      simp only [Option.map_eq_some_iff] at h
      obtain ⟨z, hz, he⟩ := h
      have := ih _ z hz
      rw [← he]
      simp [this]

theorem getTs_len (s : ByteArray) : (getTs s).1.length ≤ 200 := by
  unfold getTs
  by_cases h : (getNI s 0).2 < 0 ∨ 200 < (getNI s 0).1
  · rw [if_pos h]; simp
  · rw [if_neg h]
    cases hy : getTsL s (getNI s 0).1.toNat (getNI s 0).2 with
    | none => simp
    | some y =>
      have := getTsL_len s _ _ y hy
      simp only
      by_cases he : y.2 = (s.size : Int)
      · rw [if_pos he]; simp only; omega
      · rw [if_neg he]; simp

theorem texts_own {w : World} {B : Nat} {v : Value} {ts : List ByteArray} (h : w.ownsRow B 9 1 v ts.length (strV ts)) : Texts w v ts := by
  rcases h.2 with ⟨rfl, h0⟩ | ⟨g, cap, cur, hv, _⟩
  · exact .inl ⟨List.length_eq_zero_iff.1 h0, _, _, rfl⟩
  · subst hv; exact Texts.own h

set_option maxHeartbeats 400000 in
theorem walk (s : ByteArray) (w : World) (hs0 : s.size ≤ maxLen) :
    Calls Try.prog 6 #[.string s] w fun e w' => e = .returned (.bool true) ∧ Below w.heap.size w w' := by
  unfold maxLen at hs0
  by_cases hbig : (1048576 : Int) < s.size
  · go_enter Try.func6, Try.ntmps6
    go_wp2
    go_ret
    exact ⟨rfl, Below.refl _ _⟩
  · have hs : s.size ≤ 140737488355328 := by omega
    have hl := getTs_len s
    have HG : Hid (∀ wx : World, Calls Try.prog 17 #[.string s] wx fun e w' => ∃ v, e = .returned (.tuple #[v, .bool (getTs s).2]) ∧ w'.ownsRow wx.heap.size 9 1 v (getTs s).1.length (strV (getTs s).1) ∧ Below wx.heap.size wx w') := fun wx => implGetTexts s wx hs
    have HP : Hid (∀ wx : World, Calls Try.prog 16 #[.string s] wx fun e w' => ∃ v, e = .returned (.tuple #[v, .bool (getTs s).2]) ∧ w'.ownsRow wx.heap.size 9 1 v (getTs s).1.length (strV (getTs s).1) ∧ Below wx.heap.size wx w') := fun wx => specGetTexts s wx hs
    generalize getTs s = r at *
    obtain ⟨ts, ok⟩ := r
    simp only at hl HG HP
    go_enter Try.func6, Try.ntmps6
    go_wp2_with fail
    refine (HP.out _).mono ?_
    rintro e w1 ⟨v0, rfl, ho1, hb1⟩
    have T1 : Hid (Texts w1 v0 ts) := texts_own ho1
    clear ho1 HP
    go_wp2_with fail
    refine (HG.out _).mono ?_
    rintro e w2 ⟨vg, rfl, ho2, hb2⟩
    have O2 : Hid (w2.ownsRow w1.heap.size 9 1 vg ts.length (strV ts)) := ho2
    clear ho2
    go_wp2_with fail
    refine (lawsEq vg v0 ts _ (texts_own O2.out) (T1.out.below hb2) (by omega)).mono ?_
    rintro e w3 ⟨rfl, hb3⟩
    have O3 : Hid (w3.ownsRow w1.heap.size 9 1 vg ts.length (strV ts)) := own_below O2.out hb3
    have b13 : Below w1.heap.size w1 w3 := hb2.trans (hb3.mono hb2.size)
    clear hb2 hb3 O2
    go_wp2_with fail
    refine (lawsMarkS vg ts.length w1.heap.size 1 (strV ts) _ O3.out b13.size (by omega) (by omega) (by omega)).mono ?_
    rintro e w4 ⟨rfl, ho4, hb4⟩
    have O4 : Hid (w4.ownsRow w1.heap.size 9 1 vg ts.length (marksV 1 ts.length)) := ho4
    have b14 : Below w1.heap.size w1 w4 := b13.trans hb4
    clear ho4 hb4 O3 b13
    go_wp2_with fail
    refine (lawsHeldS vg ts.length w1.heap.size 1 _ O4.out (by omega) (by omega) (by omega)).mono ?_
    rintro e w5 ⟨rfl, hb5⟩
    have O5 : Hid (w5.ownsRow w1.heap.size 9 1 vg ts.length (marksV 1 ts.length)) := own_below O4.out hb5
    have b15 : Below w1.heap.size w1 w5 := b14.trans (hb5.mono b14.size)
    clear hb5 O4 b14
    go_wp2_with fail
    refine (HG.out _).mono ?_
    rintro e w6 ⟨vh, rfl, ho6, hb6⟩
    have T6 : Hid (Texts w6 vh ts) := texts_own ho6
    have O6 : Hid (w6.ownsRow w1.heap.size 9 1 vg ts.length (marksV 1 ts.length)) := own_below O5.out hb6
    have b16 : Below w1.heap.size w1 w6 := b15.trans (hb6.mono b15.size)
    clear ho6 hb6 O5 b15
    go_wp2_with fail
    refine (lawsEq vh v0 ts _ T6.out (T1.out.below b16) (by omega)).mono ?_
    rintro e w7 ⟨rfl, hb7⟩
    have O7 : Hid (w7.ownsRow w1.heap.size 9 1 vg ts.length (marksV 1 ts.length)) := own_below O6.out hb7
    have b17 : Below w1.heap.size w1 w7 := b16.trans (hb7.mono b16.size)
    clear hb7 O6 b16 T6 T1
    go_wp2_with fail
    refine (lawsHeldS vg ts.length w1.heap.size 1 _ O7.out (by omega) (by omega) (by omega)).mono ?_
    rintro e w8 ⟨rfl, hb8⟩
    have b18 : Below w1.heap.size w1 w8 := b17.trans (hb8.mono b17.size)
    have bfin : Below w.heap.size w w8 := hb1.trans (b18.mono hb1.size)
    clear hb8 O7 b17 b18 hb1
    go_wp2
    go_ret
    exact ⟨rfl, bfin⟩

set_option maxRecDepth 100000 in
theorem lifted (os : Os) (started : os.Started) (H : Type) (enc : TypeId × Value → H) :
    ReturnsInHanded {} Try.checked os 6 .any (Rows.fnExactGetTextsSpec.pre6 enc Try.prog Try.f6 Rows.fnExactGetTextsRow.domain false) (Rows.fnExactGetTextsSpec.post enc Try.prog Try.f6 false true false false) := by
  refine returnsInHanded_of_change (C := Try.checked) own started (by kernel_rfl) Try.func6
    (ChangeSpec.witness6 (enc := enc) (C := Try.checked) false ⟨#[], #[.string ⟨#[]⟩], []⟩ 8 (by kernel_rfl) (by kernel_rfl) (by kernel_rfl) (by kernel_rfl)) ?_
  intro W base args ds gs before hval0 hW hcnd _
  have hval : ∀ (j : Nat) t v, Try.f6.params[j]? = some t → args[j]? = some v → Value.okWide Try.prog W .any base t v := hval0
  have hW' := hW
  obtain ⟨p, q, hA0, hV, rfl, hfz, hnd⟩ := hW
  have hA : DataW.TrodAll enc Try.prog W 0 (fun _ => true) true Try.f6.params.toList args.toList ds p := hA0
  rw [Try.params6] at hA hval
  obtain ⟨v0, vs0, d0, ds0, p0, q0, hargs, rfl, rfl, h0, r0⟩ := trodAll_cons hA
  obtain ⟨rfl, rfl, rfl⟩ := trodAll_nil r0
  obtain rfl : args = #[v0] := by cases args; simp_all
  obtain ⟨rfl, rfl⟩ := trodVars_none hV
  obtain ⟨s, rfl, rfl, rfl, hs⟩ := open_string Try.underlying9 (hval 0 9 v0 rfl rfl) h0
  clear hA0 hval0
  refine (walk s W hs).mono fun e W' ⟨he, bel⟩ => ?_
  subst he
  exact ⟨_, rfl, _, _, _, [], _, [], hW', trodAll_mk1 (shut_bool Try.underlying4 _), (trodAll_cons_mk (shut_string Try.underlying9 hs) trodAll_mk0), rfl, bel.frame _, fun h => by cases h⟩

theorem over : Rows.fnExactGetTextsRow.holds Try.pinned (OpenSpec.ofChange Rows.fnExactGetTextsSpec) :=
  OpenClaim.holds_of_wide 6 Try.f6 rfl rfl rfl rfl rfl rfl rfl ⟨rfl, rfl, rfl, rfl, rfl⟩ rfl rfl rfl rfl rfl (by kernel_rfl) Try.func6 (by kernel_rfl)
    (of_decide_eq_true (by kernel_rfl)) (by unfold Func.isWrapper; first | (rw [if_pos (by decide +kernel)]; kernel_rfl) | (rw [if_neg (by decide +kernel)]; exact ⟨rfl, rfl⟩))
    (fun os started H enc _ => lifted os started H enc)

end Go.Proofs.Yticcdaohpbkjeaa.exactGetTexts

namespace Go.Proofs.Yticcdaohpbkjeaa

theorem exactGetTexts_holds : Rows.FnExactGetTextsSaid := exactGetTexts.over

end Go.Proofs.Yticcdaohpbkjeaa

/-
  At every list of texts impl.PutTexts answers as the specification does (the law itself passes lists of more than 1048576 texts and bytes by), and nothing that was there has turned. No condition.
-/
import Derived.Test.YtacpcodjpmcmcaaPutTextsW
import Derived.Test.YtacpcodjpmcmcaaTextsT
import Derived.ProofKit
import Derived.OpenShut
import Derived.ShutString
import Derived.SliceStrings
import Derived.ChangeOld
namespace Go.Proofs.Ytacpcodjpmcmcaa.exactPutTexts
open Go.ChangeShapes Go.WideShapes Go.ChangeAt Go.RowKit

theorem own : ownKnob Try.prog.godebug = none := by kernel_rfl
theorem laidOut : laidOutB Try.prog = true := by kernel_rfl

set_option maxHeartbeats 400000 in
theorem walk (v : Value) (ts : List ByteArray) (w : World) (hT : Texts w v ts) (hl : ts.length ≤ maxLen) (hs : ∀ t ∈ ts, t.size ≤ maxLen) :
    Calls Try.prog 4 #[v] w fun e w' => e = .returned (.bool true) ∧ Below w.heap.size w w' := by
  have HZ : Hid (Calls Try.prog 7 #[v, .int .i64 1048576] w fun e w' => e = .returned (.int .i64 (szS ts 1048576)) ∧ w = w') := lawsSz v ts 1048576 w hT hl hs (by decide) (by decide)
  have HT : Hid (Texts w v ts) := hT
  clear hT hl hs
  by_cases hz : (ts.length : Int) + sumS ts ≤ 1048576
  · have hz1 : szS ts 1048576 = 1048576 - ts.length - sumS ts := if_pos hz
    have hl : ts.length ≤ 1048576 := by omega
    have hs : sumS ts ≤ 1048576 := by omega
    obtain ⟨L, hL⟩ : ∃ L : Int, L = szS ts 1048576 := ⟨_, rfl⟩
    have hL0 : ¬ L < 0 := by omega
    have HL : Hid (L = szS ts 1048576) := hL
    clear hL hz1 hz
    go_enter Try.func4, Try.ntmps4
    go_wp2_with fail
    refine HZ.out.mono ?_
    rintro e w1 ⟨rfl, rfl⟩
    rw [← HL.out]
    go_wp2_with fail
    refine (lawsTo v ts _ HT.out hl).mono ?_
    rintro e w1 ⟨rfl, ho1, hb1⟩
    have t1 : Texts w1 _ ts := Texts.own ho1
    have T1 : Hid (Texts w1 _ ts) := t1
    have tv1 : Hid (Texts w1 v ts) := HT.out.below hb1
    clear t1 ho1
    go_wp2_with fail
    refine (specPutTexts _ ts _ T1.out hl hs).mono ?_
    rintro e w2 ⟨rfl, hb2⟩
    have tv2 : Hid (Texts w2 v ts) := tv1.out.below hb2
    have hb02 : Below w.heap.size w w2 := hb1.trans (hb2.mono hb1.size)
    clear tv1 T1 hb1 hb2
    go_wp2_with fail
    refine (lawsTo v ts _ tv2.out hl).mono ?_
    rintro e w3 ⟨rfl, ho3, hb3⟩
    have t3 : Texts w3 _ ts := Texts.own ho3
    have T3 : Hid (Texts w3 (.slice (some ⟨w2.heap.size, 0, none⟩) ts.length ts.length) ts) := t3
    have tv3 : Hid (Texts w3 v ts) := tv2.out.below hb3
    have hb03 : Below w.heap.size w w3 := hb02.trans (hb3.mono hb02.size)
    clear t3 ho3 tv2 hb3
    go_wp2_with fail
    refine (implPutTexts _ ts _ T3.out hl hs).mono ?_
    rintro e w4 ⟨rfl, hb4⟩
    have T4 : Hid (Texts w4 (.slice (some ⟨w2.heap.size, 0, none⟩) ts.length ts.length) ts) := T3.out.below hb4
    have tv4 : Hid (Texts w4 v ts) := tv3.out.below hb4
    have hb04 : Below w.heap.size w w4 := hb03.trans (hb4.mono hb03.size)
    clear T3 tv3 hb4 hb03 hb02
    go_wp2_with fail
    refine (lawsTo v ts _ tv4.out hl).mono ?_
    rintro e w5 ⟨rfl, ho5, hb5⟩
    have t5 : Hid (Texts w5 (.slice (some ⟨w4.heap.size, 0, none⟩) ts.length ts.length) ts) := Texts.own ho5
    have T5 : Hid (Texts w5 (.slice (some ⟨w2.heap.size, 0, none⟩) ts.length ts.length) ts) := T4.out.below hb5
    have hb05 : Below w.heap.size w w5 := hb04.trans (hb5.mono hb04.size)
    clear T4 tv4 hb5 ho5 hb04
    go_wp2_with fail
    refine (lawsEq _ _ ts _ T5.out t5.out hl).mono ?_
    rintro e w6 ⟨rfl, hb6⟩
    have hb06 : Below w.heap.size w w6 := hb05.trans (hb6.mono hb05.size)
    clear T5 t5 hb6 hb05
    go_wp2
    go_ret
    exact ⟨rfl, hb06⟩
  · have hz1 : szS ts 1048576 = -1 := if_neg hz
    rw [hz1] at HZ
    go_enter Try.func4, Try.ntmps4
    go_wp2_with fail
    refine HZ.out.mono ?_
    rintro e w1 ⟨rfl, rfl⟩
    go_wp2
    go_ret
    exact ⟨rfl, Below.refl _ _⟩

set_option maxRecDepth 100000 in
theorem lifted (os : Os) (started : os.Started) (H : Type) (enc : TypeId × Value → H) :
    ReturnsInHanded {} Try.checked os 4 .any (Rows.fnExactPutTextsSpec.pre6 enc Try.prog Try.f4 Rows.fnExactPutTextsRow.domain false) (Rows.fnExactPutTextsSpec.post enc Try.prog Try.f4 false true false false) := by
  refine returnsInHanded_of_change (C := Try.checked) own started (by kernel_rfl) Try.func4
    (ChangeSpec.witness6 (enc := enc) (C := Try.checked) false ⟨#[], #[.slice none 0 0], []⟩ 8 (by kernel_rfl) (by kernel_rfl) (by kernel_rfl) (by kernel_rfl)) ?_
  intro W base args ds gs before hval0 hW hcnd _
  have hval : ∀ (j : Nat) t v, Try.f4.params[j]? = some t → args[j]? = some v → Value.okWide Try.prog W .any base t v := hval0
  have hW' := hW
  obtain ⟨p, q, hA0, hV, rfl, hfz, hnd⟩ := hW
  have hA : DataW.TrodAll enc Try.prog W 0 (fun _ => true) true Try.f4.params.toList args.toList ds p := hA0
  rw [Try.params4] at hA hval
  obtain ⟨v0, vs0, d0, ds0, p0, q0, hargs, rfl, rfl, h0, r0⟩ := trodAll_cons hA
  obtain ⟨rfl, rfl, rfl⟩ := trodAll_nil r0
  obtain rfl : args = #[v0] := by cases args; simp_all
  obtain ⟨rfl, rfl⟩ := trodVars_none hV
  obtain ⟨a0, len0, cap0, rfl⟩ := okWide_slice Try.underlying24 (hval 0 24 v0 rfl rfl)
  have k0 := h0
  have lt0 : ∀ x ∈ p0, x.block < W.heap.size := by obtain ⟨m, hm⟩ := k0; exact DataW.trod_lt m _ _ _ hm
  obtain ⟨ts, hT, hl, hs⟩ : ∃ ts, Texts W (.slice a0 len0 cap0) ts ∧ ts.length ≤ maxLen ∧ ∀ t ∈ ts, t.size ≤ maxLen := by
    obtain ⟨fuel, hf⟩ := h0
    rcases open_strings Try.underlying24 Try.underlying9 (by kernel_rfl) hf with ⟨hcs, _⟩ | ⟨x, l, c, ss, hcs, _, hlc, hm, hz, _, hcell, hws⟩
    · simp [Value.cells] at hcs
      obtain ⟨rfl, rfl, rfl⟩ := hcs
      exact ⟨[], .inl ⟨rfl, _, _, rfl⟩, by simp, by simp⟩
    · simp [Value.cells] at hcs
      obtain ⟨rfl, rfl, rfl⟩ := hcs
      have hzl : len0 ≤ ss.length := by simp at hz; omega
      have hlen : (ss.take len0).length = len0 := by simp; omega
      refine ⟨ss.take len0, ?_, by omega, fun t ht => hws t (List.mem_of_mem_take ht)⟩
      by_cases h00 : len0 = 0
      · subst h00
        exact .inl ⟨by simp, _, _, rfl⟩
      · obtain ⟨b, off, spot⟩ := x
        have hc := hcell 0 (by omega)
        have hspot : spot = none := by simpa [Addr.add] using World.cell?_spot hc
        subst hspot
        refine .inr ⟨b, off, cap0, by rw [hlen], fun j hj => ?_⟩
        have hjl : j < ss.length := by omega
        have := hcell j hjl
        rw [Addr.add_lit] at this
        rw [this]
        simp [hjl]
  clear hA0 hval0
  refine (walk _ ts W hT hl hs).mono fun e W' ⟨he, bel⟩ => ?_
  subst he
  exact ⟨_, rfl, _, _, _, [], _, [], hW', trodAll_mk1 (shut_bool Try.underlying4 _), (trodAll_cons_mk (Below.trod laidOut (by kernel_rfl) (of_decide_eq_true (by kernel_rfl)) k0 bel lt0) trodAll_mk0), rfl, bel.frame _, fun h => by cases h⟩

theorem over : Rows.fnExactPutTextsRow.holds Try.pinned (OpenSpec.ofChange Rows.fnExactPutTextsSpec) :=
  OpenClaim.holds_of_wide 4 Try.f4 rfl rfl rfl rfl rfl rfl rfl ⟨rfl, rfl, rfl, rfl, rfl⟩ rfl rfl rfl rfl rfl (by kernel_rfl) Try.func4 (by kernel_rfl)
    (of_decide_eq_true (by kernel_rfl)) (by unfold Func.isWrapper; first | (rw [if_pos (by decide +kernel)]; kernel_rfl) | (rw [if_neg (by decide +kernel)]; exact ⟨rfl, rfl⟩))
    (fun os started H enc _ => lifted os started H enc)

end Go.Proofs.Ytacpcodjpmcmcaa.exactPutTexts

namespace Go.Proofs.Ytacpcodjpmcmcaa

theorem exactPutTexts_holds : Rows.FnExactPutTextsSaid := exactPutTexts.over

end Go.Proofs.Ytacpcodjpmcmcaa

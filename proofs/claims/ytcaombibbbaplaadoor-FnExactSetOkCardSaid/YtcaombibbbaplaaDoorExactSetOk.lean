/-
  At every list of sources impl.SetOk answers as the specification does (the law itself passes lists that hold more than 1048576 by), and nothing that was there has turned. Its condition: impl's listed table of classes holds what the program's text lays into it, which the card ties to that text.
-/
import Derived.Test.YtcaombibbbaplaaDoorCards
import Derived.Test.YtcaombibbbaplaaDoorTie
import Derived.Test.YtcaombibbbaplaaDoorSrI
import Derived.Lib.LaidTab
import Derived.ProofKit
import Derived.OpenShut
import Derived.ShutString
import Derived.ChangeOld
import Derived.Deep.DeepHandedRow
import Derived.OpenVars
import Derived.ChangeVars
namespace Go.Proofs.YtcaombibbbaplaaDoor.exactSetOk
open Go.ChangeShapes Go.WideShapes Go.ChangeAt Go.RowKit

theorem own : ownKnob Tryd.prog.godebug = none := by kernel_rfl
theorem gTab : Tryd.prog.globalNamed "loop.example/g00276/impl.classes" = some 0 := by kernel_rfl
theorem gTabType : (Tryd.prog.globals[0]?).map (·.type) = some 45 := by kernel_rfl
def clsTab : List Int := (List.range 128).map fun i => (Lx.cls i : Int)
theorem tabDatum : (Rows.laid_loop_example_g00276_impl_classes : DataW Unit) = Lib.tabData .u8 clsTab := by kernel_rfl
theorem clsIs {W : World} (h : Lib.TabIs Tryd.prog W "loop.example/g00276/impl.classes" .u8 clsTab) : ClsIs W := fun i hi => by
  have := h.cell gTab i (by simp [clsTab]; exact hi)
  rw [this]
  simp [clsTab, List.getD, hi]

theorem table {W : World} (h : laidMetH Tryd.prog Rows.fnExactSetOkRow.laid W) : ClsIs W := by
  have h2 : laidMet Tryd.prog [("loop.example/g00276/impl.classes", Rows.laid_loop_example_g00276_impl_classes)] W := h
  rw [tabDatum] at h2
  exact clsIs (Lib.tabIs_of_head gTab gTabType Tryd.underlying45 Tryd.underlying5 (by kernel_rfl) (by kernel_rfl) h2)

set_option maxHeartbeats 1600000 in
set_option maxRecDepth 100000 in
open Classical in
theorem walk (v : Value) (es : List Src) (w : World) (h : SrcAt w v es) (hl : es.length ≤ maxLen) (hsz : ∀ e ∈ es, e.1.size ≤ maxLen ∧ e.2.size ≤ maxLen) (hcls : ClsIs w) :
    Calls Tryd.prog 3 #[v] w fun e w' => e = .returned (.bool true) ∧ Below w.heap.size w w' := by
  have HZ : Hid (Calls Tryd.prog 5 #[v, .int .i64 1048576] w fun e w' => e = .returned (.int .i64 (leftS (srsBulk es) 1048576)) ∧ Below w.heap.size w w') := lawsSzSrs v es 1048576 w h hl hsz (by omega) (by omega)
  obtain ⟨av, capv, rfl, _⟩ := srcOpen h
  by_cases hbk : srsBulk es ≤ 1048576
  · have hz1 : leftS (srsBulk es) 1048576 = 1048576 - (srsBulk es : Nat) := if_pos (by omega)
    rw [hz1] at HZ
    have HT : Hid (∀ wx : World, Below w.heap.size w wx → Calls Tryd.prog 7 #[.slice av es.length capv] wx fun e w' => e = .returned (.slice (some ⟨wx.heap.size, 0, none⟩) es.length es.length) ∧ SrcAt w' (.slice (some ⟨wx.heap.size, 0, none⟩) es.length es.length) es ∧ Below wx.heap.size wx w') := fun wx hx => lawsToSrs _ es wx (h.below hx) (by unfold srsBulk at hbk; omega)
    have HS : Hid (∀ (u : Value) (wx : World), SrcAt wx u es → Calls Tryd.prog 6 #[u] wx fun e w' => e = .returned (.bool (decide (SrcRight es))) ∧ Below wx.heap.size wx w') := fun u wx h => specSetOk u es wx h hbk
    have HI : Hid (∀ (u : Value) (wx : World), SrcAt wx u es → Below w.heap.size w wx → Calls Tryd.prog 8 #[u] wx fun e w' => e = .returned (.bool (decide (SrcRight es))) ∧ Below wx.heap.size wx w') := fun u wx h hx => implSetOk u es wx h hbk (hcls.below hx hcls.lt)
    have HE : Hid (∀ (ua ub : Value) (wx : World), SrcAt wx ua es → SrcAt wx ub es → Calls Tryd.prog 9 #[ua, ub] wx fun e w' => e = .returned (.bool true) ∧ Below wx.heap.size wx w') := fun ua ub wx ha hb => lawsEqSrs ua ub es wx ha hb (by unfold srsBulk at hbk; omega)
    clear h hz1 hcls
    generalize decide (SrcRight es) = r at *
    have hr : (r != r) = false := by cases r <;> rfl
    generalize hB : srsBulk es = B at *
    clear hB
    have hneg : ¬ (1048576 - (B : Int) < 0) := by omega
    go_enter Tryd.func3, Tryd.ntmps3
    go_wp2_with fail
    refine HZ.out.mono ?_
    rintro e w1 ⟨rfl, hw1⟩
    clear HZ
    go_wp2_with fail
    refine (HT.out _ hw1).mono ?_
    rintro e w2 ⟨rfl, hq2, hb2⟩
    have hw2 := hw1.trans (hb2.mono hw1.size)
    have HS2 : Hid (type_of% (HS.out _ _ hq2)) := HS.out _ _ hq2
    clear hw1 hb2 hq2 HS
    go_wp2_with fail
    refine HS2.out.mono ?_
    rintro e w3 ⟨rfl, hb3⟩
    have hw3 := hw2.trans (hb3.mono hw2.size)
    clear hw2 hb3 HS2
    go_wp2_with fail
    refine (HT.out _ hw3).mono ?_
    rintro e w4 ⟨rfl, hq4, hb4⟩
    have hw4 := hw3.trans (hb4.mono hw3.size)
    have HI2 : Hid (type_of% (HI.out _ _ hq4 hw4)) := HI.out _ _ hq4 hw4
    clear hw3 hb4 HI
    go_wp2_with fail
    refine HI2.out.mono ?_
    rintro e w5 ⟨rfl, hb5⟩
    have hw5 := hw4.trans (hb5.mono hw4.size)
    have hq5 := hq4.below hb5
    clear hw4 hb5 hq4 HI2
    go_wp2_with fail
    refine (HT.out _ hw5).mono ?_
    rintro e w6 ⟨rfl, hq6, hb6⟩
    have hw6 := hw5.trans (hb6.mono hw5.size)
    have hq56 := hq5.below hb6
    have HE2 : Hid (type_of% (HE.out _ _ _ hq56 hq6)) := HE.out _ _ _ hq56 hq6
    clear hw5 hb6 hq5 hq6 hq56 HE HT
    go_wp2_with fail
    refine HE2.out.mono ?_
    rintro e w7 ⟨rfl, hb7⟩
    go_wp2_with fail
    go_ret
    exact ⟨rfl, hw6.trans (hb7.mono hw6.size)⟩
  · have hz1 : leftS (srsBulk es) 1048576 = -1 := if_neg (by omega)
    rw [hz1] at HZ
    clear h hbk hz1 hcls
    go_enter Tryd.func3, Tryd.ntmps3
    go_wp2_with fail
    refine HZ.out.mono ?_
    rintro e w1 ⟨rfl, hb1⟩
    go_wp2_with fail
    go_ret
    exact ⟨rfl, hb1⟩

theorem laidOut : laidOutB Tryd.prog = true := by kernel_rfl

set_option maxRecDepth 100000 in
theorem contract (H : Type) (enc : TypeId × Value → H) (W : World) (base : Nat) (args : Array Value) (ds gs : List (DataW H)) (before : List MemPlace)
    (hval : ∀ (j : Nat) t v, Tryd.f3.params[j]? = some t → args[j]? = some v → Value.okWide Tryd.prog W .any base t v)
    (hW : DataW.Whole enc Tryd.prog Tryd.f3.params.toList Rows.fnExactSetOkSpec.vars false W args.toList ds gs before) (hL : laidMetH Tryd.prog Rows.fnExactSetOkRow.laid W) :
    Calls Tryd.prog 3 args W fun e W' => ∃ v, e = .returned v ∧ Rows.fnExactSetOkSpec.post enc Tryd.prog Tryd.f3 false true false false W args v W' := by
  have hW' := hW
  obtain ⟨p, q, hA0, hV, rfl, hfz, hnd⟩ := hW
  have hA : DataW.TrodAll enc Tryd.prog W 0 (fun _ => true) true Tryd.f3.params.toList args.toList ds p := hA0
  rw [Tryd.params3] at hA hval
  obtain ⟨v0, vs0, d0, ds0, p0, q0, hargs, rfl, rfl, h0, r0⟩ := trodAll_cons hA
  obtain ⟨rfl, rfl, rfl⟩ := trodAll_nil r0
  obtain rfl : args = #[v0] := by cases args; simp_all
  have hV0 := hV
  obtain ⟨g0, t0, cs0, fu0, dv, pv, rfl, _, _, _, _, _⟩ := trodVars_one hV
  obtain ⟨a0, len0, cap0, rfl⟩ := okWide_slice Tryd.underlying22 (hval 0 22 v0 rfl rfl)
  have k0 := h0
  have lt0 : ∀ x ∈ p0, x.block < W.heap.size := by obtain ⟨m, hm⟩ := k0; exact DataW.trod_lt m _ _ _ hm
  obtain ⟨fuel, hf⟩ := h0
  obtain ⟨es, ht, hl, hsz⟩ := opened_srs fuel _ _ hf
  clear hA0
  refine (walk _ es W ht hl hsz (table hL)).mono fun e W' ⟨he, bel⟩ => ?_
  subst he
  exact ⟨_, rfl, _, _, _, [], _, _, hW', trodAll_mk1 (shut_bool Tryd.underlying4 _), (trodAll_cons_mk (Below.trod laidOut (by kernel_rfl) (of_decide_eq_true (by kernel_rfl)) k0 bel lt0) trodAll_mk0), Below.trodVars laidOut bel (by kernel_rfl) hV0, bel.frame _, fun h => by cases h⟩

def fill (cs : Array Value) : Obj → Obj
  | .cells _ t frozen => .cells cs t frozen
  | o => o
def laidWorld (P : Program) (os : Os) : World :=
  { World.holding P os ⟨#[], #[], []⟩ with heap := (World.holding P os ⟨#[], #[], []⟩).heap.modify 0 (fill (clsTab.map fun z => Value.int .u8 z).toArray) }
theorem laid_met (os : Os) : laidMet Tryd.prog Rows.fnExactSetOkRow.laid ((laidWorld Tryd.prog os).forCall (fun _ _ => 0) ⟨#[], #[.slice none 0 0], []⟩).memory :=
  laidMet_of_run' 8 (by kernel_rfl) (by kernel_rfl)
theorem reads (os : Os) {H : Type} (enc : TypeId × Value → H) : ∃ places, DataW.whole enc Tryd.prog ((laidWorld Tryd.prog os).forCall (fun _ _ => 0) ⟨#[], #[.slice none 0 0], []⟩).memory Tryd.f3.params.toList Rows.fnExactSetOkSpec.vars false #[Value.slice none 0 0].toList 8 = some ([.nil], [Rows.laid_loop_example_g00276_impl_classes], places) :=
  ⟨MemPlace.row ⟨0, 0, none⟩ 128, by kernel_rfl⟩

set_option maxRecDepth 100000 in
theorem lifted (os : Os) (started : os.Started) (H : Type) (enc : TypeId × Value → H) (F : Stop.Interp) :
    ReturnsInHanded {} Tryd.checked os 3 .any ((OpenSpec.ofChange Rows.fnExactSetOkSpec).preRow enc Tryd.prog Tryd.f3 Rows.fnExactSetOkRow.domain false Rows.fnExactSetOkRow.laid) (((OpenSpec.ofChange Rows.fnExactSetOkSpec).at F).post enc Tryd.prog Tryd.f3 false true false false) := by
  obtain ⟨places, hx⟩ := reads os enc
  refine returnsInHanded_of_row (C := Tryd.checked) (s := OpenSpec.ofChange Rows.fnExactSetOkSpec) own started (by kernel_rfl) Tryd.func3
    (witness_row_at (enc := enc) (C := Tryd.checked) false (laidWorld Tryd.prog os) #[.slice none 0 0] rfl (by kernel_rfl) (by kernel_rfl) (by kernel_rfl)
      (OpenSpec.preRow_of_cond 8 hx (by kernel_rfl) (fun k hk => by cases hk) (by kernel_rfl) (laid_met os))) ?_
  intro W base args ds gs before hval hW _ _ _ hL _ _
  exact contract H enc W base args ds gs before hval hW hL

theorem said : Rows.FnExactSetOkSaid :=
  OpenClaim.holds_of_cond 3 Tryd.f3 rfl rfl rfl rfl rfl rfl rfl ⟨rfl, rfl, rfl, rfl, rfl⟩ rfl rfl rfl rfl rfl (by kernel_rfl) Tryd.func3 (by kernel_rfl)
    (of_decide_eq_true (by kernel_rfl)) (by unfold Func.isWrapper; first | (rw [if_pos (by decide +kernel)]; kernel_rfl) | (rw [if_neg (by decide +kernel)]; exact ⟨rfl, rfl⟩))
    (fun os started H enc _ F => by rw [OpenClaim.pre_eq_preRow]; exact lifted os started H enc F)

theorem plain (f : FuncId) (fn : Func) (hf : Tryd.pinned.checked.prog.funcNamed "loop.example/g00276/laws.FnExactSetOk" = some f) (hfn : Tryd.pinned.checked.prog.funcs[f]? = some fn) :
    Rows.fnExactSetOkCard.stood.looks = Tryd.pinned.checked.prog.looks [] ∧ ∀ (j : Nat) t, fn.params[j]? = some t → Tryd.pinned.checked.prog.wantsStandIn t = false := by
  obtain rfl : f = 3 := Option.some.inj ((show Tryd.prog.funcNamed "loop.example/g00276/laws.FnExactSetOk" = some 3 by kernel_rfl).symm.trans hf) |>.symm
  obtain rfl : fn = Tryd.f3 := (Option.some.inj (Tryd.func3.symm.trans hfn)).symm
  refine ⟨by kernel_rfl, fun j t ht => ?_⟩
  rw [Tryd.params3] at ht
  obtain rfl : t = 22 := by simpa using Array.mem_of_getElem? ht
  exact (show Tryd.prog.wantsStandIn 22 = false by kernel_rfl)

end Go.Proofs.YtcaombibbbaplaaDoor.exactSetOk

namespace Go.Proofs.YtcaombibbbaplaaDoor

theorem exactSetOk_holds : Rows.FnExactSetOkCardSaid :=
  Claim7.holds_tied_plain_at .later [] _ _ _ _ exactSetOk.said (fun _ h => by cases h) (by kernel_rfl) (fun _ h => by cases h) fnExactSetOk_row_tie rfl ⟨rfl, rfl⟩ (by kernel_rfl) rfl exactSetOk.plain (by kernel_rfl)

end Go.Proofs.YtcaombibbbaplaaDoor

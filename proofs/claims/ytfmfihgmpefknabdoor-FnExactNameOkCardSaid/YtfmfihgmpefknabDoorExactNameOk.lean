/-
  At every text impl.NameOk answers as the specification does (the law itself passes texts of more than 1048576 bytes by), and nothing that was there has turned. Its condition: impl's listed table of classes holds what the program's text lays into it, which the card ties to that text.
-/
import Derived.Test.YtfmfihgmpefknabDoorCards
import Derived.Test.YtfmfihgmpefknabDoorTie
import Derived.Test.YtfmfihgmpefknabDoorNameW
import Derived.Lib.LaidTab
import Derived.ProofKit
import Derived.OpenShut
import Derived.ShutString
import Derived.ChangeOld
import Derived.Deep.DeepHandedRow
import Derived.OpenVars
import Derived.ChangeVars
namespace Go.Proofs.YtfmfihgmpefknabDoor.exactNameOk
open Go.ChangeShapes Go.WideShapes Go.ChangeAt Go.RowKit
open Go.ChangeMaps (open_string shut_string)

theorem own : ownKnob Tryd.prog.godebug = none := by kernel_rfl
theorem gTab : Tryd.prog.globalNamed "loop.example/g00276/impl.classes" = some 0 := by kernel_rfl
theorem gTabType : (Tryd.prog.globals[0]?).map (·.type) = some 52 := by kernel_rfl
def clsTab : List Int := (List.range 128).map fun i => (Lx.cls i : Int)
theorem tabDatum : (Rows.laid_loop_example_g00276_impl_classes : DataW Unit) = Lib.tabData .u8 clsTab := by kernel_rfl
theorem clsIs {W : World} (h : Lib.TabIs Tryd.prog W "loop.example/g00276/impl.classes" .u8 clsTab) : ClsIs W := fun i hi => by
  have := h.cell gTab i (by simp [clsTab]; exact hi)
  rw [this]
  simp [clsTab, List.getD, hi]

theorem table {W : World} (h : laidMetH Tryd.prog Rows.fnExactNameOkRow.laid W) : ClsIs W := by
  have h2 : laidMet Tryd.prog [("loop.example/g00276/impl.classes", Rows.laid_loop_example_g00276_impl_classes)] W := h
  rw [tabDatum] at h2
  exact clsIs (Lib.tabIs_of_head gTab gTabType Tryd.underlying52 Tryd.underlying5 (by kernel_rfl) (by kernel_rfl) h2)

set_option maxHeartbeats 400000 in
theorem walk (s : ByteArray) (w : World) (hs0 : s.size ≤ maxLen) (hc : ClsIs w) :
    Calls Tryd.prog 5 #[.string s] w fun e w' => e = .returned (.bool true) ∧ Below w.heap.size w w' := by
  unfold maxLen at hs0
  by_cases hbig : (1048576 : Int) < s.size
  · clear hc
    go_enter Tryd.func5, Tryd.ntmps5
    go_wp2
    go_ret
    exact ⟨rfl, Below.refl _ _⟩
  · have hs : s.size ≤ 140737488355328 := by omega
    have HI : Hid (∀ wx : World, Below w.heap.size w wx → Calls Tryd.prog 11 #[.string s] wx fun e w' => e = .returned (.bool (Lx.nameOkP s)) ∧ wx = w') := fun wx hb => implNameOk s wx hs (hc.below hb hc.lt)
    have HP : Hid (∀ wx : World, Calls Tryd.prog 10 #[.string s] wx fun e w' => e = .returned (.bool (Lx.nameOkP s)) ∧ Below wx.heap.size wx w') := fun wx => specNameOk s wx hs
    clear hc
    generalize Lx.nameOkP s = r at *
    have hr : (r != r) = false := by cases r <;> rfl
    go_enter Tryd.func5, Tryd.ntmps5
    go_wp2_with fail
    refine (HP.out _).mono ?_
    rintro e w1 ⟨rfl, hb1⟩
    go_wp2_with fail
    refine (HI.out _ hb1).mono ?_
    rintro e w2 ⟨rfl, rfl⟩
    go_wp2
    go_ret
    exact ⟨rfl, hb1⟩

theorem laidOut : laidOutB Tryd.prog = true := by kernel_rfl

set_option maxRecDepth 100000 in
theorem contract (H : Type) (enc : TypeId × Value → H) (W : World) (base : Nat) (args : Array Value) (ds gs : List (DataW H)) (before : List MemPlace)
    (hval : ∀ (j : Nat) t v, Tryd.f5.params[j]? = some t → args[j]? = some v → Value.okWide Tryd.prog W .any base t v)
    (hW : DataW.Whole enc Tryd.prog Tryd.f5.params.toList Rows.fnExactNameOkSpec.vars false W args.toList ds gs before) (hL : laidMetH Tryd.prog Rows.fnExactNameOkRow.laid W) :
    Calls Tryd.prog 5 args W fun e W' => ∃ v, e = .returned v ∧ Rows.fnExactNameOkSpec.post enc Tryd.prog Tryd.f5 false true false false W args v W' := by
  have hW' := hW
  obtain ⟨p, q, hA0, hV, rfl, hfz, hnd⟩ := hW
  have hA : DataW.TrodAll enc Tryd.prog W 0 (fun _ => true) true Tryd.f5.params.toList args.toList ds p := hA0
  rw [Tryd.params5] at hA hval
  obtain ⟨v0, vs0, d0, ds0, p0, q0, hargs, rfl, rfl, h0, r0⟩ := trodAll_cons hA
  obtain ⟨rfl, rfl, rfl⟩ := trodAll_nil r0
  obtain rfl : args = #[v0] := by cases args; simp_all
  have hV0 := hV
  obtain ⟨g0, t0, cs0, fu0, dv, pv, rfl, _, _, _, _, _⟩ := trodVars_one hV
  obtain ⟨s, rfl, rfl, rfl, hs⟩ := open_string Tryd.underlying9 (hval 0 9 v0 rfl rfl) h0
  clear hA0
  refine (walk s W hs (table hL)).mono fun e W' ⟨he, bel⟩ => ?_
  subst he
  exact ⟨_, rfl, _, _, _, [], _, _, hW', trodAll_mk1 (shut_bool Tryd.underlying4 _), (trodAll_cons_mk (shut_string Tryd.underlying9 hs) trodAll_mk0), Below.trodVars laidOut bel (by kernel_rfl) hV0, bel.frame _, fun h => by cases h⟩

def fill (cs : Array Value) : Obj → Obj
  | .cells _ t frozen => .cells cs t frozen
  | o => o
def laidWorld (P : Program) (os : Os) : World :=
  { World.holding P os ⟨#[], #[], []⟩ with heap := (World.holding P os ⟨#[], #[], []⟩).heap.modify 0 (fill (clsTab.map fun z => Value.int .u8 z).toArray) }
theorem laid_met (os : Os) : laidMet Tryd.prog Rows.fnExactNameOkRow.laid ((laidWorld Tryd.prog os).forCall (fun _ _ => 0) ⟨#[], #[.string ⟨#[]⟩], []⟩).memory :=
  laidMet_of_run' 8 (by kernel_rfl) (by kernel_rfl)
theorem reads (os : Os) {H : Type} (enc : TypeId × Value → H) : ∃ places, DataW.whole enc Tryd.prog ((laidWorld Tryd.prog os).forCall (fun _ _ => 0) ⟨#[], #[.string ⟨#[]⟩], []⟩).memory Tryd.f5.params.toList Rows.fnExactNameOkSpec.vars false #[Value.string ⟨#[]⟩].toList 8 = some ([.lit (.string [])], [Rows.laid_loop_example_g00276_impl_classes], places) :=
  ⟨MemPlace.row ⟨0, 0, none⟩ 128, by kernel_rfl⟩

set_option maxRecDepth 100000 in
theorem lifted (os : Os) (started : os.Started) (H : Type) (enc : TypeId × Value → H) (F : Stop.Interp) :
    ReturnsInHanded {} Tryd.checked os 5 .any ((OpenSpec.ofChange Rows.fnExactNameOkSpec).preRow enc Tryd.prog Tryd.f5 Rows.fnExactNameOkRow.domain false Rows.fnExactNameOkRow.laid) (((OpenSpec.ofChange Rows.fnExactNameOkSpec).at F).post enc Tryd.prog Tryd.f5 false true false false) := by
  obtain ⟨places, hx⟩ := reads os enc
  refine returnsInHanded_of_row (C := Tryd.checked) (s := OpenSpec.ofChange Rows.fnExactNameOkSpec) own started (by kernel_rfl) Tryd.func5
    (witness_row_at (enc := enc) (C := Tryd.checked) false (laidWorld Tryd.prog os) #[.string ⟨#[]⟩] rfl (by kernel_rfl) (by kernel_rfl) (by kernel_rfl)
      (OpenSpec.preRow_of_cond 8 hx (by kernel_rfl) (fun k hk => by cases hk) (by kernel_rfl) (laid_met os))) ?_
  intro W base args ds gs before hval hW _ _ _ hL _ _
  exact contract H enc W base args ds gs before hval hW hL

theorem said : Rows.FnExactNameOkSaid :=
  OpenClaim.holds_of_cond 5 Tryd.f5 rfl rfl rfl rfl rfl rfl rfl ⟨rfl, rfl, rfl, rfl, rfl⟩ rfl rfl rfl rfl rfl (by kernel_rfl) Tryd.func5 (by kernel_rfl)
    (of_decide_eq_true (by kernel_rfl)) (by unfold Func.isWrapper; first | (rw [if_pos (by decide +kernel)]; kernel_rfl) | (rw [if_neg (by decide +kernel)]; exact ⟨rfl, rfl⟩))
    (fun os started H enc _ F => by rw [OpenClaim.pre_eq_preRow]; exact lifted os started H enc F)

theorem plain (f : FuncId) (fn : Func) (hf : Tryd.pinned.checked.prog.funcNamed "loop.example/g00276/laws.FnExactNameOk" = some f) (hfn : Tryd.pinned.checked.prog.funcs[f]? = some fn) :
    Rows.fnExactNameOkCard.stood.looks = Tryd.pinned.checked.prog.looks [] ∧ ∀ (j : Nat) t, fn.params[j]? = some t → Tryd.pinned.checked.prog.wantsStandIn t = false := by
  obtain rfl : f = 5 := Option.some.inj ((show Tryd.prog.funcNamed "loop.example/g00276/laws.FnExactNameOk" = some 5 by kernel_rfl).symm.trans hf) |>.symm
  obtain rfl : fn = Tryd.f5 := (Option.some.inj (Tryd.func5.symm.trans hfn)).symm
  refine ⟨by kernel_rfl, fun j t ht => ?_⟩
  rw [Tryd.params5] at ht
  obtain rfl : t = 9 := by simpa using Array.mem_of_getElem? ht
  exact (show Tryd.prog.wantsStandIn 9 = false by kernel_rfl)

end Go.Proofs.YtfmfihgmpefknabDoor.exactNameOk

namespace Go.Proofs.YtfmfihgmpefknabDoor

theorem exactNameOk_holds : Rows.FnExactNameOkCardSaid :=
  Claim7.holds_tied_plain_at .later [] _ _ _ _ exactNameOk.said (fun _ h => by cases h) (by kernel_rfl) (fun _ h => by cases h) fnExactNameOk_row_tie rfl ⟨rfl, rfl⟩ (by kernel_rfl) rfl exactNameOk.plain (by kernel_rfl)

end Go.Proofs.YtfmfihgmpefknabDoor

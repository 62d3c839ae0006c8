/-
  At every text impl.Lex answers as the specification does (the law itself passes texts of more than 1048576 bytes by), and nothing that was there has turned. Its answer is memory of its own. Its condition: impl's listed table of classes and package errors' listed variable hold what the program's text lays into them, which the card ties to that text.
-/
import Derived.Test.YtihpdngpedgjhaaDoorCards
import Derived.Test.YtihpdngpedgjhaaDoorTie
import Derived.Test.YtihpdngpedgjhaaDoorTokMark
import Derived.Test.YtihpdngpedgjhaaDoorLexLaid
import Derived.ProofKit
import Derived.OpenShut
import Derived.ShutString
import Derived.ChangeOld
import Derived.Deep.DeepHandedRow
import Derived.OpenVars
import Derived.ChangeVars
namespace Go.Proofs.YtihpdngpedgjhaaDoor.exactLex
open Go.ChangeShapes Go.WideShapes Go.ChangeAt Go.RowKit
open Go.ChangeMaps (open_string shut_string)

theorem own : ownKnob Tryd.prog.godebug = none := by kernel_rfl
theorem table {W : World} (h : laidMetH Tryd.prog Rows.fnExactLexRow.laid W) : ClsIs W ∧ ErrIs W := by
  have h2 : laidMet Tryd.prog [("loop.example/g00276/impl.classes", Rows.laid_loop_example_g00276_impl_classes)] W ∧ handlesMet Tryd.prog [("errors.errorType", Rows.laid_errors_errorType)] W := h
  obtain ⟨h3, h4⟩ := h2
  rw [tabDatum] at h3
  exact ⟨clsIs (Lib.tabIs_of_head gTab gTabType Tryd.underlying44 Tryd.underlying5 (by kernel_rfl) (by kernel_rfl) h3), errIs h4⟩

set_option maxHeartbeats 400000 in
theorem walk (s : ByteArray) (w : World) (hs0 : s.size ≤ maxLen) (hc : ClsIs w) (hg : ErrIs w) :
    Calls Tryd.prog 4 #[.string s] w fun e w' => e = .returned (.bool true) ∧ Below w.heap.size w w' := by
  unfold maxLen at hs0
  by_cases hbig : (1048576 : Int) < s.size
  · clear hc hg
    go_enter Tryd.func4, Tryd.ntmps4
    go_wp2
    go_ret
    exact ⟨rfl, Below.refl _ _⟩
  · have hs : s.size ≤ 140737488355328 := by omega
    have hl := lexA_len s
    have HG : Hid (∀ wx : World, Below w.heap.size w wx → Calls Tryd.prog 8 #[.string s] wx fun e w' => ∃ v, e = .returned (.tuple #[v, .int .i64 ((Lx.lexA s).2 : Nat)]) ∧ w'.ownsRow wx.heap.size 35 4 v (Lx.lexA s).1.length (toksV (Lx.lexA s).1) ∧ Below wx.heap.size wx w') := fun wx hb => implLex s wx hs (hc.below hb hc.lt) (hg.below hb hg.lt)
    have HP : Hid (∀ wx : World, Calls Tryd.prog 7 #[.string s] wx fun e w' => ∃ v, e = .returned (.tuple #[v, .int .i64 ((Lx.lexA s).2 : Nat)]) ∧ w'.ownsRow wx.heap.size 35 4 v (Lx.lexA s).1.length (toksV (Lx.lexA s).1) ∧ Below wx.heap.size wx w') := fun wx => specLex s wx hs
    clear hc hg
    generalize Lx.lexA s = r at *
    obtain ⟨ts, n⟩ := r
    simp only at hl HG HP
    go_enter Tryd.func4, Tryd.ntmps4
    go_wp2_with fail
    refine (HP.out _).mono ?_
    rintro e w1 ⟨v0, rfl, ho1, hb1⟩
    have T1 : Hid (Toks w1 v0 ts) := toks_own ho1
    clear ho1 HP
    go_wp2_with fail
    refine (HG.out _ hb1).mono ?_
    rintro e w2 ⟨vg, rfl, ho2, hb2⟩
    have O2 : Hid (w2.ownsRow w1.heap.size 35 4 vg ts.length (toksV ts)) := ho2
    clear ho2
    go_wp2_with fail
    refine (lawsEqToks vg v0 ts _ (toks_own O2.out) (T1.out.below hb2) (by omega)).mono ?_
    rintro e w3 ⟨rfl, hb3⟩
    have O3 : Hid (w3.ownsRow w1.heap.size 35 4 vg ts.length (toksV ts)) := kept_below O2.out hb3
    have b13 : Below w1.heap.size w1 w3 := hb2.trans (hb3.mono hb2.size)
    clear hb2 hb3 O2
    go_wp2_with fail
    refine (lawsMarkT vg ts.length w1.heap.size 1 (toksV ts) _ O3.out b13.size (by omega) (by omega) (by omega)).mono ?_
    rintro e w4 ⟨rfl, ho4, hb4⟩
    have O4 : Hid (w4.ownsRow w1.heap.size 35 4 vg ts.length (marks4 1 ts.length)) := ho4
    have b14 : Below w1.heap.size w1 w4 := b13.trans hb4
    clear ho4 hb4 O3 b13
    go_wp2_with fail
    refine (lawsHeldT vg ts.length w1.heap.size 1 _ O4.out (by omega) (by omega) (by omega)).mono ?_
    rintro e w5 ⟨rfl, hb5⟩
    have O5 : Hid (w5.ownsRow w1.heap.size 35 4 vg ts.length (marks4 1 ts.length)) := kept_below O4.out hb5
    have b15 : Below w1.heap.size w1 w5 := b14.trans (hb5.mono b14.size)
    clear hb5 O4 b14
    have bw5 : Below w.heap.size w w5 := hb1.trans (b15.mono hb1.size)
    go_wp2_with fail
    refine (HG.out _ bw5).mono ?_
    rintro e w6 ⟨vh, rfl, ho6, hb6⟩
    have T6 : Hid (Toks w6 vh ts) := toks_own ho6
    have O6 : Hid (w6.ownsRow w1.heap.size 35 4 vg ts.length (marks4 1 ts.length)) := kept_below O5.out hb6
    have b16 : Below w1.heap.size w1 w6 := b15.trans (hb6.mono b15.size)
    clear ho6 hb6 O5 b15 bw5
    go_wp2_with fail
    refine (lawsEqToks vh v0 ts _ T6.out (T1.out.below b16) (by omega)).mono ?_
    rintro e w7 ⟨rfl, hb7⟩
    have O7 : Hid (w7.ownsRow w1.heap.size 35 4 vg ts.length (marks4 1 ts.length)) := kept_below O6.out hb7
    have b17 : Below w1.heap.size w1 w7 := b16.trans (hb7.mono b16.size)
    clear hb7 O6 b16 T6 T1
    go_wp2_with fail
    refine (lawsHeldT vg ts.length w1.heap.size 1 _ O7.out (by omega) (by omega) (by omega)).mono ?_
    rintro e w8 ⟨rfl, hb8⟩
    have b18 : Below w1.heap.size w1 w8 := b17.trans (hb8.mono b17.size)
    have bfin : Below w.heap.size w w8 := hb1.trans (b18.mono hb1.size)
    clear hb8 O7 b17 b18 hb1
    go_wp2
    go_ret
    exact ⟨rfl, bfin⟩

theorem laidOut : laidOutB Tryd.prog = true := by kernel_rfl

set_option maxRecDepth 100000 in
theorem contract (H : Type) (enc : TypeId × Value → H) (W : World) (base : Nat) (args : Array Value) (ds gs : List (DataW H)) (before : List MemPlace)
    (hval : ∀ (j : Nat) t v, Tryd.f4.params[j]? = some t → args[j]? = some v → Value.okWide Tryd.prog W .any base t v)
    (hW : DataW.Whole enc Tryd.prog Tryd.f4.params.toList Rows.fnExactLexSpec.vars false W args.toList ds gs before) (hL : laidMetH Tryd.prog Rows.fnExactLexRow.laid W) :
    Calls Tryd.prog 4 args W fun e W' => ∃ v, e = .returned v ∧ Rows.fnExactLexSpec.post enc Tryd.prog Tryd.f4 false true false false W args v W' := by
  have hW' := hW
  obtain ⟨p, q, hA0, hV, rfl, hfz, hnd⟩ := hW
  have hA : DataW.TrodAll enc Tryd.prog W 0 (fun _ => true) true Tryd.f4.params.toList args.toList ds p := hA0
  rw [Tryd.params4] at hA hval
  obtain ⟨v0, vs0, d0, ds0, p0, q0, hargs, rfl, rfl, h0, r0⟩ := trodAll_cons hA
  obtain ⟨rfl, rfl, rfl⟩ := trodAll_nil r0
  obtain rfl : args = #[v0] := by cases args; simp_all
  have hV0 := hV
  obtain ⟨g0, t0, cs0, fu0, dv, pv, rfl, _, _, _, _, _⟩ := trodVars_one hV
  obtain ⟨s, rfl, rfl, rfl, hs⟩ := open_string Tryd.underlying9 (hval 0 9 v0 rfl rfl) h0
  clear hA0
  refine (walk s W hs (table hL).1 (table hL).2).mono fun e W' ⟨he, bel⟩ => ?_
  subst he
  exact ⟨_, rfl, _, _, _, [], _, _, hW', trodAll_mk1 (shut_bool Tryd.underlying4 _), (trodAll_cons_mk (shut_string Tryd.underlying9 hs) trodAll_mk0), Below.trodVars laidOut bel (by kernel_rfl) hV0, bel.frame _, fun h => by cases h⟩

def fill (cs : Array Value) : Obj → Obj
  | .cells _ t frozen => .cells cs t frozen
  | o => o
def laidWorld (P : Program) (os : Os) : World :=
  { World.holding P os ⟨#[], #[], []⟩ with heap := ((World.holding P os ⟨#[], #[], []⟩).heap.modify 0 (fill (clsTab.map fun z => Value.int .u8 z).toArray)).modify 1 (fill #[.iface 72 (.agg #[.pointer (some ⟨2, 46, none⟩)])]) }
theorem laid_met (os : Os) : laidMetH Tryd.prog Rows.fnExactLexRow.laid ((laidWorld Tryd.prog os).forCall (fun _ _ => 0) ⟨#[], #[.string ⟨#[]⟩], []⟩).memory :=
  laidMetH_of_parts (laidMet_of_run' 8 (by kernel_rfl) (by kernel_rfl)) (by kernel_rfl)
theorem reads (os : Os) {H : Type} (enc : TypeId × Value → H) : ∃ places, DataW.whole enc Tryd.prog ((laidWorld Tryd.prog os).forCall (fun _ _ => 0) ⟨#[], #[.string ⟨#[]⟩], []⟩).memory Tryd.f4.params.toList Rows.fnExactLexSpec.vars false #[Value.string ⟨#[]⟩].toList 8 = some ([.lit (.string [])], [Rows.laid_loop_example_g00276_impl_classes], places) :=
  ⟨MemPlace.row ⟨0, 0, none⟩ 128, by kernel_rfl⟩

set_option maxRecDepth 100000 in
theorem lifted (os : Os) (started : os.Started) (H : Type) (enc : TypeId × Value → H) (F : Stop.Interp) :
    ReturnsInHanded {} Tryd.checked os 4 .any ((OpenSpec.ofChange Rows.fnExactLexSpec).preRow enc Tryd.prog Tryd.f4 Rows.fnExactLexRow.domain false Rows.fnExactLexRow.laid) (((OpenSpec.ofChange Rows.fnExactLexSpec).at F).post enc Tryd.prog Tryd.f4 false true false false) := by
  obtain ⟨places, hx⟩ := reads os enc
  refine returnsInHanded_of_row (C := Tryd.checked) (s := OpenSpec.ofChange Rows.fnExactLexSpec) own started (by kernel_rfl) Tryd.func4
    (witness_row_at (enc := enc) (C := Tryd.checked) false (laidWorld Tryd.prog os) #[.string ⟨#[]⟩] rfl (by kernel_rfl) (by kernel_rfl) (by kernel_rfl)
      (OpenSpec.preRow_of_cond 8 hx (by kernel_rfl) (fun k hk => by cases hk) (by kernel_rfl) (laid_met os))) ?_
  intro W base args ds gs before hval hW _ _ _ hL _ _
  exact contract H enc W base args ds gs before hval hW hL

theorem said : Rows.FnExactLexSaid :=
  OpenClaim.holds_of_cond 4 Tryd.f4 rfl rfl rfl rfl rfl rfl rfl ⟨rfl, rfl, rfl, rfl, rfl⟩ rfl rfl rfl rfl rfl (by kernel_rfl) Tryd.func4 (by kernel_rfl)
    (of_decide_eq_true (by kernel_rfl)) (by unfold Func.isWrapper; first | (rw [if_pos (by decide +kernel)]; kernel_rfl) | (rw [if_neg (by decide +kernel)]; exact ⟨rfl, rfl⟩))
    (fun os started H enc _ F => by rw [OpenClaim.pre_eq_preRow]; exact lifted os started H enc F)

theorem plain (f : FuncId) (fn : Func) (hf : Tryd.pinned.checked.prog.funcNamed "loop.example/g00276/laws.FnExactLex" = some f) (hfn : Tryd.pinned.checked.prog.funcs[f]? = some fn) :
    Rows.fnExactLexCard.stood.looks = Tryd.pinned.checked.prog.looks [] ∧ ∀ (j : Nat) t, fn.params[j]? = some t → Tryd.pinned.checked.prog.wantsStandIn t = false := by
  obtain rfl : f = 4 := Option.some.inj ((show Tryd.prog.funcNamed "loop.example/g00276/laws.FnExactLex" = some 4 by kernel_rfl).symm.trans hf) |>.symm
  obtain rfl : fn = Tryd.f4 := (Option.some.inj (Tryd.func4.symm.trans hfn)).symm
  refine ⟨by kernel_rfl, fun j t ht => ?_⟩
  rw [Tryd.params4] at ht
  obtain rfl : t = 9 := by simpa using Array.mem_of_getElem? ht
  exact (show Tryd.prog.wantsStandIn 9 = false by kernel_rfl)

end Go.Proofs.YtihpdngpedgjhaaDoor.exactLex

namespace Go.Proofs.YtihpdngpedgjhaaDoor

theorem exactLex_holds : Rows.FnExactLexCardSaid :=
  Claim7.holds_tied_plain_at .later [] _ _ _ _ exactLex.said (fun _ h => by cases h) (by kernel_rfl) (fun _ h => by cases h) fnExactLex_row_tie rfl ⟨rfl, rfl⟩ (by kernel_rfl) rfl exactLex.plain (by kernel_rfl)

end Go.Proofs.YtihpdngpedgjhaaDoor

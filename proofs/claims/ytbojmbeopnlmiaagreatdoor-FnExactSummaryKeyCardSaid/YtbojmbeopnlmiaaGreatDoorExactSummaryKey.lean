/-
 At every summary impl.SummaryKey answers as the specification does (the law itself passes summaries that hold more than 1048576 by), and nothing that was there has turned. Its condition: the listed tables (impl's own of classes, the library's of powers of ten and two of bits) hold what the program's text lays into them, which the card ties to that text.
-/
import Derived.Test.YtbojmbeopnlmiaaGreatDoorCards
import Derived.Test.YtbojmbeopnlmiaaGreatDoorTie
import Derived.Test.YtbojmbeopnlmiaaGreatDoorTab2
import Derived.ShutString
import Derived.ChangeOld
import Derived.Deep.DeepHandedRow
namespace Go.Proofs.YtbojmbeopnlmiaaGreatDoor.exactSummaryKey
open Go.ChangeShapes Go.WideShapes Go.ChangeAt Go.RowKit
theorem own : ownKnob Tryz.prog.godebug = none := by kernel_rfl
theorem table {W : World} (h : laidMetH Tryz.prog Rows.fnExactSummaryKeyRow.laid W) : ClsIs W ∧ Lib.TabIs Tryz.prog W "internal/strconv.uint64pow10" .u64 Lib.pow10Tab := tables4 h
theorem bits {W : World} (h : laidMetH Tryz.prog Rows.fnExactSummaryKeyRow.laid W) : W.cell? ⟨4, 15, none⟩ = some (.int .u8 4) := bits4 h
theorem laidOut : laidOutB Tryz.prog = true := by kernel_rfl
set_option maxRecDepth 100000 in
theorem contract (H : Type) (enc : TypeId × Value → H) (W : World) (base : Nat) (args : Array Value) (ds gs : List (DataW H)) (before : List MemPlace)
  (hval : ∀ (j : Nat) t v, Tryz.f5.params[j]? = some t → args[j]? = some v → Value.okWide Tryz.prog W .any base t v)
  (hW : DataW.Whole enc Tryz.prog Tryz.f5.params.toList Rows.fnExactSummaryKeySpec.vars false W args.toList ds gs before) (hL : laidMetH Tryz.prog Rows.fnExactSummaryKeyRow.laid W) :
  Calls Tryz.prog 5 args W fun e W' => ∃ v, e = .returned v ∧ Rows.fnExactSummaryKeySpec.post enc Tryz.prog Tryz.f5 false true false false W args v W' := by
 have hW' := hW
 obtain ⟨p, q, hA0, hV, rfl, hfz, hnd⟩ := hW
 have hA : DataW.TrodAll enc Tryz.prog W 0 (fun _ => true) true Tryz.f5.params.toList args.toList ds p := hA0
 rw [Tryz.params5] at hA hval
 obtain ⟨v0, vs0, d0, ds0, p0, q0, hargs, rfl, rfl, h0, r0⟩ := trodAll_cons hA
 obtain ⟨rfl, rfl, rfl⟩ := trodAll_nil r0
 obtain rfl : args = #[v0] := by cases args; simp_all
 have hV0 := hV
 obtain ⟨g0, t0, cs0, fu0, dv, pv, rfl, _, _, _, _, _⟩ := trodVars_one hV
 obtain ⟨cs, rfl, hcs⟩ := okWide_struct Tryz.underlying36 (hval 0 36 v0 rfl rfl)
 have k0 := h0
 have lt0 : ∀ x ∈ p0, x.block < W.heap.size := by obtain ⟨m, hm⟩ := k0; exact DataW.trod_lt m _ _ _ hm
 obtain ⟨fuel, hf⟩ := h0
 obtain ⟨d, nm, bad, vT, vX, ts, xs, hcv, hns, hT, hX, hlT, hlX⟩ := opened_sum fuel _ _ hf
 obtain rfl : cs = #[.string nm, .bool bad, vT, vX] := by
  cases cs
  simpa [Value.cells] using hcv
 clear hA0
 refine (walkSummaryKey d nm bad vT vX ts xs W hT hX hns hlT hlX (table hL) (bits hL)).mono fun e W' ⟨he, bel⟩ => ?_
 subst he
 exact ⟨_, rfl, _, _, _, [], _, _, hW', trodAll_mk1 (shut_bool Tryz.underlying4 _), (trodAll_cons_mk (Below.trod laidOut (by kernel_rfl) (of_decide_eq_true (by kernel_rfl)) k0 bel lt0) trodAll_mk0), Below.trodVars laidOut bel (by kernel_rfl) hV0, bel.frame _, fun h => by cases h⟩
theorem laid_met (os : Os) : laidMet Tryz.prog Rows.fnExactSummaryKeyRow.laid ((laidWorld4 Tryz.prog os).forCall (fun _ _ => 0) ⟨#[], #[.agg #[.string ⟨#[]⟩, .bool false, .slice none 0 0, .slice none 0 0]], []⟩).memory :=
 laidMet_of_run' 8 (by kernel_rfl) (by kernel_rfl)
theorem reads (os : Os) {H : Type} (enc : TypeId × Value → H) : ∃ places, DataW.whole enc Tryz.prog ((laidWorld4 Tryz.prog os).forCall (fun _ _ => 0) ⟨#[], #[.agg #[.string ⟨#[]⟩, .bool false, .slice none 0 0, .slice none 0 0]], []⟩).memory Tryz.f5.params.toList Rows.fnExactSummaryKeySpec.vars false #[Value.agg #[.string ⟨#[]⟩, .bool false, .slice none 0 0, .slice none 0 0]].toList 8 = some ([.agg [.lit (.string []), .lit (.bool false), .nil, .nil]], [Rows.laid_loop_example_g00276_impl_classes], places) :=
 ⟨MemPlace.row ⟨0, 0, none⟩ 128, by kernel_rfl⟩
set_option maxRecDepth 100000 in
theorem lifted (os : Os) (started : os.Started) (H : Type) (enc : TypeId × Value → H) (F : Stop.Interp) :
  ReturnsInHanded {} Tryz.checked os 5 .any ((OpenSpec.ofChange Rows.fnExactSummaryKeySpec).preRow enc Tryz.prog Tryz.f5 Rows.fnExactSummaryKeyRow.domain false Rows.fnExactSummaryKeyRow.laid) (((OpenSpec.ofChange Rows.fnExactSummaryKeySpec).at F).post enc Tryz.prog Tryz.f5 false true false false) := by
 obtain ⟨places, hx⟩ := reads os enc
 refine returnsInHanded_of_row (C := Tryz.checked) (s := OpenSpec.ofChange Rows.fnExactSummaryKeySpec) own started (by kernel_rfl) Tryz.func5
  (witness_row_at (enc := enc) (C := Tryz.checked) false (laidWorld4 Tryz.prog os) #[.agg #[.string ⟨#[]⟩, .bool false, .slice none 0 0, .slice none 0 0]] rfl (by kernel_rfl) (by kernel_rfl) (by kernel_rfl)
   (OpenSpec.preRow_of_cond 8 hx (by kernel_rfl) (fun k hk => by cases hk) (by kernel_rfl) (laid_met os))) ?_
 intro W base args ds gs before hval hW _ _ _ hL _ _
 exact contract H enc W base args ds gs before hval hW hL
theorem said : Rows.FnExactSummaryKeySaid :=
 OpenClaim.holds_of_cond 5 Tryz.f5 rfl rfl rfl rfl rfl rfl rfl ⟨rfl, rfl, rfl, rfl, rfl⟩ rfl rfl rfl rfl rfl (by kernel_rfl) Tryz.func5 (by kernel_rfl)
  (of_decide_eq_true (by kernel_rfl)) (by unfold Func.isWrapper; first | (rw [if_pos (by decide +kernel)]; kernel_rfl) | (rw [if_neg (by decide +kernel)]; exact ⟨rfl, rfl⟩))
  (fun os started H enc _ F => by rw [OpenClaim.pre_eq_preRow]; exact lifted os started H enc F)
theorem plain (f : FuncId) (fn : Func) (hf : Tryz.pinned.checked.prog.funcNamed "loop.example/g00276/laws.FnExactSummaryKey" = some f) (hfn : Tryz.pinned.checked.prog.funcs[f]? = some fn) :
  Rows.fnExactSummaryKeyCard.stood.looks = Tryz.pinned.checked.prog.looks [] ∧ ∀ (j : Nat) t, fn.params[j]? = some t → Tryz.pinned.checked.prog.wantsStandIn t = false := by
 obtain rfl : f = 5 := Option.some.inj ((show Tryz.prog.funcNamed "loop.example/g00276/laws.FnExactSummaryKey" = some 5 by kernel_rfl).symm.trans hf) |>.symm
 obtain rfl : fn = Tryz.f5 := (Option.some.inj (Tryz.func5.symm.trans hfn)).symm
 refine ⟨by kernel_rfl, fun j t ht => ?_⟩
 rw [Tryz.params5] at ht
 obtain rfl : t = 36 := by simpa using Array.mem_of_getElem? ht
 exact (show Tryz.prog.wantsStandIn 36 = false by kernel_rfl)
end Go.Proofs.YtbojmbeopnlmiaaGreatDoor.exactSummaryKey
namespace Go.Proofs.YtbojmbeopnlmiaaGreatDoor
theorem exactSummaryKey_holds : Rows.FnExactSummaryKeyCardSaid :=
 Claim7.holds_tied_plain_at .later [] _ _ _ _ exactSummaryKey.said (fun _ h => by cases h) (by kernel_rfl) (fun _ h => by cases h) fnExactSummaryKey_row_tie rfl ⟨rfl, rfl⟩ (by kernel_rfl) rfl exactSummaryKey.plain (by kernel_rfl)
end Go.Proofs.YtbojmbeopnlmiaaGreatDoor

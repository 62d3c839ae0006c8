/-
  At every list of sources, two numbers and a store impl.FarmStart answers as the specification does, in memory of its own (the law itself passes arguments that hold more than 1048576 by), and nothing that was there has turned. Its condition: the library's three listed tables, impl's listed table of classes and impl's listed error hold what the program's text lays into them, which the card ties to that text.
-/
import Derived.Test.YtllbfbllkefjeaaGreatDoorCards
import Derived.Test.YtllbfbllkefjeaaGreatDoorTie
import Derived.Test.YtllbfbllkefjeaaGreatDoorFsW
import Derived.ProofKit
import Derived.OpenShut
import Derived.ShutString
import Derived.ChangeOld
import Derived.Deep.DeepHandedRow
import Derived.OpenVars
import Derived.ChangeVars
import Derived.Stop.LaidErr
import Derived.LaidLaws
import Derived.LaidHandle
import Derived.Lib.LaidTab
import Derived.Lib.ItoaNum
namespace Go.Proofs.YtllbfbllkefjeaaGreatDoor.exactFarmStart
open Go.ChangeShapes Go.WideShapes Go.ChangeAt Go.RowKit

theorem own : ownKnob Tryz.prog.godebug = none := by kernel_rfl
theorem gTab : Tryz.prog.globalNamed "math/bits.deBruijn64tab" = some 5 := by kernel_rfl
theorem gTabType : (Tryz.prog.globals[5]?).map (·.type) = some 270 := by kernel_rfl
def u8s (l : List Int) : Array Value := (l.map fun z => Value.int .u8 z).toArray
def bare32 : List Int := [0, 1, 28, 2, 29, 14, 24, 3, 30, 22, 20, 15, 25, 17, 4, 8, 31, 27, 13, 23, 21, 19, 16, 7, 26, 12, 18, 6, 11, 5, 10, 9]
def bare64 : List Int := [0, 1, 56, 2, 57, 49, 28, 3, 61, 58, 42, 50, 38, 29, 17, 4, 62, 47, 59, 36, 45, 43, 51, 22, 53, 39, 33, 30, 24, 18, 12, 5, 63, 55, 48, 27, 60, 41, 37, 16, 46, 35, 44, 21, 52, 32, 23, 11, 54, 26, 40, 15, 34, 20, 31, 10, 25, 14, 19, 9, 13, 8, 7, 6]
theorem tabDatum : (Rows.laid_math_bits_deBruijn64tab : DataW Unit) = Lib.tabData .u8 bare64 := by kernel_rfl
theorem gCls : Tryz.prog.globalNamed "loop.example/g00276/impl.classes" = some 1 := by kernel_rfl
theorem gClsType : (Tryz.prog.globals[1]?).map (·.type) = some 182 := by kernel_rfl
def clsTab : List Int := (List.range 128).map fun i => (Lx.cls i : Int)
theorem clsDatum : (Rows.laid_loop_example_g00276_impl_classes : DataW Unit) = Lib.tabData .u8 clsTab := by kernel_rfl
theorem clsIs {W : World} (h : Lib.TabIs Tryz.prog W "loop.example/g00276/impl.classes" .u8 clsTab) : ClsIs W := fun i hi => by
  have := h.cell gCls i (by simp [clsTab]; exact hi)
  rw [this]
  simp [clsTab, List.getD, hi]

theorem gErr : Tryz.prog.globalNamed "loop.example/g00276/impl.errNoFarm" = some 0 := by kernel_rfl
theorem gErrType : (Tryz.prog.globals[0]?).map (·.type) = some 62 := by kernel_rfl
theorem cellsStr : Tryz.prog.cellsOf 297 = 1 := by kernel_rfl
theorem cellsText : Tryz.prog.cellsOf 9 = 1 := by kernel_rfl
theorem starE : "*" ++ "errors.errorString" = "*errors.errorString" := by decide
/-- the one row of that name -/
theorem rowE (u : TypeId) (h : Tryz.prog.typeName? 3 u = some "*errors.errorString") : u = 271 :=
  typeName_ptr_named (nm := "errors.errorString") (by rw [starE]; kernel_rfl) (by kernel_rfl) (by decide) u (by rw [starE]; exact h)

theorem table {W : World} (h : laidMetH Tryz.prog Rows.fnExactFarmStartRow.laid W) : ClsIs W ∧ W.cell? ⟨5, 15, none⟩ = some (.int .u8 4) ∧ ∃ a : Addr, W.cell? ⟨0, 0, none⟩ = some (.iface 271 (.pointer (some a))) := by
  have h2 : laidMet Tryz.prog [("math/bits.deBruijn32tab", Rows.laid_math_bits_deBruijn32tab), ("math/bits.deBruijn64tab", Rows.laid_math_bits_deBruijn64tab), ("internal/strconv.uint64pow10", Rows.laid_internal_strconv_uint64pow10), ("loop.example/g00276/impl.classes", Rows.laid_loop_example_g00276_impl_classes), ("loop.example/g00276/impl.errNoFarm", Rows.laid_loop_example_g00276_impl_errNoFarm)] W := h
  have h3 := h2.tail
  have h4 := h2.tail.tail.tail
  obtain ⟨a0, s0, hv0, _⟩ := laid_sentinel h4.tail gErr gErrType Tryz.underlying62 rowE Tryz.underlying271 Tryz.underlying297 rfl rfl Tryz.underlying9 cellsStr cellsText
  rw [tabDatum] at h3
  rw [clsDatum] at h4
  exact ⟨clsIs (Lib.tabIs_of_head gCls gClsType Tryz.underlying182 Tryz.underlying5 (by kernel_rfl) (by kernel_rfl) h4), (Lib.tabIs_of_head gTab gTabType Tryz.underlying270 Tryz.underlying5 (by kernel_rfl) (by kernel_rfl) h3).cell gTab 15 (by decide), a0, by simpa using World.var?_cell gErr hv0 0⟩

theorem laidOut : laidOutB Tryz.prog = true := by kernel_rfl

set_option maxRecDepth 100000 in
theorem contract (H : Type) (enc : TypeId × Value → H) (W : World) (base : Nat) (args : Array Value) (ds gs : List (DataW H)) (before : List MemPlace)
    (hval : ∀ (j : Nat) t v, Tryz.f3.params[j]? = some t → args[j]? = some v → Value.okWide Tryz.prog W .any base t v)
    (hW : DataW.Whole enc Tryz.prog Tryz.f3.params.toList Rows.fnExactFarmStartSpec.vars false W args.toList ds gs before) (hL : laidMetH Tryz.prog Rows.fnExactFarmStartRow.laid W) :
    Calls Tryz.prog 3 args W fun e W' => ∃ v, e = .returned v ∧ Rows.fnExactFarmStartSpec.post enc Tryz.prog Tryz.f3 false true false false W args v W' := by
  have hW' := hW
  obtain ⟨p, q, hA0, hV, rfl, hfz, hnd⟩ := hW
  have hA : DataW.TrodAll enc Tryz.prog W 0 (fun _ => true) true Tryz.f3.params.toList args.toList ds p := hA0
  rw [Tryz.params3] at hA hval
  obtain ⟨v0, vs0, d0, ds0, p0, q0, hargs, rfl, rfl, h0, r0⟩ := trodAll_cons hA
  obtain ⟨v1, vs1, d1, ds1, p1, q1, rfl, rfl, rfl, h1, r1⟩ := trodAll_cons r0
  obtain ⟨v2, vs2, d2, ds2, p2, q2, rfl, rfl, rfl, h2, r2⟩ := trodAll_cons r1
  obtain ⟨v3, vs3, d3, ds3, p3, q3, rfl, rfl, rfl, h3, r3⟩ := trodAll_cons r2
  obtain ⟨rfl, rfl, rfl⟩ := trodAll_nil r3
  obtain rfl : args = #[v0, v1, v2, v3] := by cases args; simp_all
  have hV0 := hV
  obtain ⟨_, _, _, _, dv0, _, _, _, _, _, dv1, _, rfl, _⟩ := trodVars_two hV
  obtain ⟨a0, len0, cap0, rfl⟩ := okWide_slice Tryz.underlying22 (hval 0 22 v0 rfl rfl)
  obtain ⟨n1, rfl, rfl, rfl, w1⟩ := open_int Tryz.underlying3 (hval 1 3 v1 rfl rfl) h1
  obtain ⟨n2, rfl, rfl, rfl, w2⟩ := open_int Tryz.underlying3 (hval 2 3 v2 rfl rfl) h2
  obtain ⟨cs, rfl, hcs⟩ := okWide_struct Tryz.underlying25 (hval 3 25 v3 rfl rfl)
  have k0 := h0
  have lt0 : ∀ x ∈ p0, x.block < W.heap.size := by obtain ⟨m, hm⟩ := k0; exact DataW.trod_lt m _ _ _ hm
  have k3 := h3
  have lt3 : ∀ x ∈ p3, x.block < W.heap.size := by obtain ⟨m, hm⟩ := k3; exact DataW.trod_lt m _ _ _ hm
  obtain ⟨fuel, hf⟩ := h0
  obtain ⟨es, ht, hl, hsz⟩ := opened_srs fuel _ _ hf
  obtain ⟨fuel3, hf3⟩ := h3
  obtain ⟨room, v, its, hcv, _, ht3, hl3, hsz3⟩ := opened_store fuel3 _ _ hf3
  obtain rfl : cs = #[.int .i64 room, v] := by
    cases cs
    simpa [Value.cells] using hcv
  clear hA0
  obtain ⟨hcls, htab, a1, hg⟩ := table hL
  refine (walkFarmStart _ es n1 n2 room v its a1 W ht hl hsz ht3 hl3 hsz3 hcls htab hg).mono fun e W' ⟨he, bel⟩ => ?_
  subst he
  exact ⟨_, rfl, _, _, _, [], _, _, hW', trodAll_mk1 (shut_bool Tryz.underlying4 _), (trodAll_cons_mk (Below.trod laidOut (by kernel_rfl) (of_decide_eq_true (by kernel_rfl)) k0 bel lt0) (trodAll_cons_mk (shut_int Tryz.underlying3 w1) (trodAll_cons_mk (shut_int Tryz.underlying3 w2) (trodAll_cons_mk (Below.trod laidOut (by kernel_rfl) (of_decide_eq_true (by kernel_rfl)) k3 bel lt3) trodAll_mk0)))), Below.trodVars laidOut bel (by kernel_rfl) hV0, bel.frame _, fun h => by cases h⟩

def fill (cs : Array Value) : Obj → Obj
  | .cells _ t frozen => .cells cs t frozen
  | o => o
def errText : ByteArray := { data := #[110, 111, 32, 102, 97, 114, 109, 32, 98, 101, 103, 105, 110, 115, 32, 119, 105, 116, 104, 32, 116, 104, 97, 116] }
noncomputable def low : Nat := (World.holding Tryz.prog default ⟨#[], #[], []⟩).heap.size
noncomputable def laidWorld (P : Program) (os : Os) : World :=
  let w0 := World.holding P os ⟨#[.cells #[.string errText] 297], #[], []⟩
  { w0 with heap := ((((w0.heap.modify 2 (fill (Lib.pow10Tab.map fun z => Value.int .u64 z).toArray)).modify 4 (fill (u8s bare32))).modify 5 (fill (u8s bare64))).modify 1 (fill (u8s clsTab))).modify 0 (fill #[.iface 271 (.pointer (some ⟨low, 0, none⟩))]) }
theorem laid_met (os : Os) : laidMetH Tryz.prog Rows.fnExactFarmStartRow.laid ((laidWorld Tryz.prog os).forCall (fun _ _ => 0) ⟨#[], #[.slice none 0 0, .int .i64 0, .int .i64 0, .agg #[.int .i64 0, .slice none 0 0]], []⟩).memory :=
  laidMetH_of_parts (laidMet_of_run' 8 (by kernel_rfl) (by kernel_rfl)) (by kernel_rfl)
theorem reads (os : Os) {H : Type} (enc : TypeId × Value → H) : ∃ ds gs places, DataW.whole enc Tryz.prog ((laidWorld Tryz.prog os).forCall (fun _ _ => 0) ⟨#[], #[.slice none 0 0, .int .i64 0, .int .i64 0, .agg #[.int .i64 0, .slice none 0 0]], []⟩).memory Tryz.f3.params.toList Rows.fnExactFarmStartSpec.vars false #[Value.slice none 0 0, .int .i64 0, .int .i64 0, .agg #[.int .i64 0, .slice none 0 0]].toList 8 = some (ds, gs, places) :=
  ⟨[.nil, .lit (.int .i64 0), .lit (.int .i64 0), .agg [.lit (.int .i64 0), .nil]], [.held (enc (271, .pointer (some ⟨low, 0, none⟩))), Rows.laid_loop_example_g00276_impl_classes], MemPlace.row ⟨0, 0, none⟩ 1 ++ MemPlace.row ⟨1, 0, none⟩ 128, by kernel_rfl⟩

set_option maxRecDepth 100000 in
theorem lifted (os : Os) (started : os.Started) (H : Type) (enc : TypeId × Value → H) (F : Stop.Interp) :
    ReturnsInHanded {} Tryz.checked os 3 .any ((OpenSpec.ofChange Rows.fnExactFarmStartSpec).preRow enc Tryz.prog Tryz.f3 Rows.fnExactFarmStartRow.domain false Rows.fnExactFarmStartRow.laid) (((OpenSpec.ofChange Rows.fnExactFarmStartSpec).at F).post enc Tryz.prog Tryz.f3 false true false false) := by
  obtain ⟨ds, gs, places, hx⟩ := reads os enc
  refine returnsInHanded_of_row (C := Tryz.checked) (s := OpenSpec.ofChange Rows.fnExactFarmStartSpec) own started (by kernel_rfl) Tryz.func3
    (witness_row_at (enc := enc) (C := Tryz.checked) false (laidWorld Tryz.prog os) #[.slice none 0 0, .int .i64 0, .int .i64 0, .agg #[.int .i64 0, .slice none 0 0]] rfl (by kernel_rfl) (by kernel_rfl) (by kernel_rfl)
      (OpenSpec.preRow_of_cond 8 hx (by kernel_rfl) (fun k hk => by cases hk) (by kernel_rfl) (laid_met os))) ?_
  intro W base args ds gs before hval hW _ _ _ hL _ _
  exact contract H enc W base args ds gs before hval hW hL

theorem said : Rows.FnExactFarmStartSaid :=
  OpenClaim.holds_of_cond 3 Tryz.f3 rfl rfl rfl rfl rfl rfl rfl ⟨rfl, rfl, rfl, rfl, rfl⟩ rfl rfl rfl rfl rfl (by kernel_rfl) Tryz.func3 (by kernel_rfl)
    (of_decide_eq_true (by kernel_rfl)) (by unfold Func.isWrapper; first | (rw [if_pos (by decide +kernel)]; kernel_rfl) | (rw [if_neg (by decide +kernel)]; exact ⟨rfl, rfl⟩))
    (fun os started H enc _ F => by rw [OpenClaim.pre_eq_preRow]; exact lifted os started H enc F)

theorem plain (f : FuncId) (fn : Func) (hf : Tryz.pinned.checked.prog.funcNamed "loop.example/g00276/laws.FnExactFarmStart" = some f) (hfn : Tryz.pinned.checked.prog.funcs[f]? = some fn) :
    Rows.fnExactFarmStartCard.stood.looks = Tryz.pinned.checked.prog.looks [] ∧ ∀ (j : Nat) t, fn.params[j]? = some t → Tryz.pinned.checked.prog.wantsStandIn t = false := by
  obtain rfl : f = 3 := Option.some.inj ((show Tryz.prog.funcNamed "loop.example/g00276/laws.FnExactFarmStart" = some 3 by kernel_rfl).symm.trans hf) |>.symm
  obtain rfl : fn = Tryz.f3 := (Option.some.inj (Tryz.func3.symm.trans hfn)).symm
  refine ⟨by kernel_rfl, fun j t ht => ?_⟩
  rw [Tryz.params3] at ht
  rcases (show t = 22 ∨ t = 3 ∨ t = 25 by simpa using Array.mem_of_getElem? ht) with rfl | rfl | rfl
  · exact (show Tryz.prog.wantsStandIn 22 = false by kernel_rfl)
  · exact (show Tryz.prog.wantsStandIn 3 = false by kernel_rfl)
  · exact (show Tryz.prog.wantsStandIn 25 = false by kernel_rfl)

end Go.Proofs.YtllbfbllkefjeaaGreatDoor.exactFarmStart

namespace Go.Proofs.YtllbfbllkefjeaaGreatDoor

theorem exactFarmStart_holds : Rows.FnExactFarmStartCardSaid :=
  Claim7.holds_tied_plain_at .later [] _ _ _ _ exactFarmStart.said (fun _ h => by cases h) (by kernel_rfl) (fun _ h => by cases h) fnExactFarmStart_row_tie rfl ⟨rfl, rfl⟩ (by kernel_rfl) rfl exactFarmStart.plain (by kernel_rfl)

end Go.Proofs.YtllbfbllkefjeaaGreatDoor

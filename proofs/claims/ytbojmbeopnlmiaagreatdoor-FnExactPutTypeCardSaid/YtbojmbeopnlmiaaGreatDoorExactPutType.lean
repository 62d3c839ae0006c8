/-
  At every type impl.PutType answers as the specification does (the law itself passes types that hold more than 1048576 by), and nothing that was there has turned. Its condition: the listed tables (impl's own of classes, the library's of powers of ten and two of bits) hold what the program's text lays into them, which the card ties to that text.
-/
import Derived.Test.YtbojmbeopnlmiaaGreatDoorCards
import Derived.Test.YtbojmbeopnlmiaaGreatDoorTie
import Derived.Test.YtbojmbeopnlmiaaGreatDoorTab4
import Derived.Test.YtbojmbeopnlmiaaGreatDoorPyP
import Derived.Lib.LaidTab
import Derived.ProofKit
import Derived.OpenShut
import Derived.ShutString
import Derived.ChangeOld
import Derived.Deep.DeepHandedRow
import Derived.OpenVars
import Derived.ChangeVars
namespace Go.Proofs.YtbojmbeopnlmiaaGreatDoor.exactPutType
open Go.ChangeShapes Go.WideShapes Go.ChangeAt Go.RowKit

theorem own : ownKnob Tryz.prog.godebug = none := by kernel_rfl
theorem table {W : World} (h : laidMetH Tryz.prog Rows.fnExactPutTypeRow.laid W) : ClsIs W ∧ Lib.TabIs Tryz.prog W "internal/strconv.uint64pow10" .u64 Lib.pow10Tab := tables4 h

/-- four cells of a block -/
def Four (w : World) (b : Nat) (x0 x1 x2 x3 : Value) : Prop := w.cell? ⟨b, 0, none⟩ = some x0 ∧ w.cell? ⟨b, 1, none⟩ = some x1 ∧ w.cell? ⟨b, 2, none⟩ = some x2 ∧ w.cell? ⟨b, 3, none⟩ = some x3
theorem four_new {w wx : World} {b : Nat} {x0 x1 x2 x3 : Value} {ty : TypeId} (e : b = w.heap.size) (hb : Below (b + 1) (w.alloc (.cells #[x0, x1, x2, x3] ty)) wx) : Four wx b x0 x1 x2 x3 := by
  refine ⟨?_, ?_, ?_, ?_⟩
  · rw [hb.cell (p := ⟨b, 0, none⟩) (Nat.lt_succ_self _), cellNew _ e]; rfl
  · rw [hb.cell (p := ⟨b, 1, none⟩) (Nat.lt_succ_self _), cellNew _ e]; rfl
  · rw [hb.cell (p := ⟨b, 2, none⟩) (Nat.lt_succ_self _), cellNew _ e]; rfl
  · rw [hb.cell (p := ⟨b, 3, none⟩) (Nat.lt_succ_self _), cellNew _ e]; rfl

set_option maxHeartbeats 1600000 in
set_option maxRecDepth 100000 in
open Classical in
theorem walk (n : Nat) (cs : List Value) (t : Ty) (w : World) (h : TyAt w n cs t) (hcls : ClsIs w ∧ Lib.TabIs Tryz.prog w "internal/strconv.uint64pow10" .u64 Lib.pow10Tab) :
    Calls Tryz.prog 3 #[.agg cs.toArray] w fun e w' => e = .returned (.bool true) ∧ Below w.heap.size w w' := by
  obtain ⟨x0, x1, x2, x3, rfl⟩ : ∃ x0 x1 x2 x3, cs = [x0, x1, x2, x3] := by
    have hl := h.len
    match cs, hl with
    | [x0, x1, x2, x3], _ => exact ⟨x0, x1, x2, x3, rfl⟩
  have hB1 : Below w.heap.size w (w.alloc (.cells #[x0, x1, x2, x3] 25)) := (Below.refl _ _).alloc (Nat.le_refl _) _
  have HZ : Hid (Calls Tryz.prog 6 #[.agg #[x0, x1, x2, x3], .int .i64 1048576] (w.alloc (.cells #[x0, x1, x2, x3] 25)) fun e w' => e = .returned (.int .i64 (leftOf (Ty.bulk n t) 1048576)) ∧ Below (w.alloc (.cells #[x0, x1, x2, x3] 25)).heap.size (w.alloc (.cells #[x0, x1, x2, x3] 25)) w') := lawsSzTy n _ t 1048576 _ (h.below hB1) (by omega) (by omega)
  by_cases hbk : Ty.bulk n t ≤ 1048576
  · have hz1 : leftOf (Ty.bulk n t) 1048576 = 1048576 - (Ty.bulk n t : Nat) := if_pos (by omega)
    rw [hz1] at HZ
    have HT : Hid (∀ wx : World, Below w.heap.size w wx → Calls Tryz.prog 8 #[.agg #[x0, x1, x2, x3]] wx fun e w' => ∃ an ln cn ak lk ck, e = .returned (.agg #[.int .i64 t.kind, .string t.name, .slice an ln cn, .slice ak lk ck]) ∧ NewTy wx.heap.size w'.heap.size w' n [.int .i64 t.kind, .string t.name, .slice an ln cn, .slice ak lk ck] t ∧ Below wx.heap.size wx w') := fun wx hx => lawsToTy n _ t wx (h.below hx) hbk
    have HS : Hid (∀ (cs : List Value) (wx : World), TyAt wx n cs t → Calls Tryz.prog 7 #[.agg cs.toArray] wx fun e w' => e = .returned (.string (putA (decide (Right n t 12)) n t)) ∧ Below wx.heap.size wx w') := fun cs wx h => specPutType n cs t wx h hbk
    have HI : Hid (∀ (y0 y1 y2 y3 : Value) (A : Nat → Prop) (wx : World), (∀ b, A b → b < wx.heap.size) → TyR A wx n [y0, y1, y2, y3] t → Below w.heap.size w wx → Calls Tryz.prog 9 #[.agg #[y0, y1, y2, y3]] wx fun e w' => e = .returned (.string (putA (decide (Right n t 12)) n t)) ∧ Below wx.heap.size wx w') := fun y0 y1 y2 y3 A wx hA h hx => implPutType n y0 y1 y2 y3 t wx A hA h hbk (hcls.1.below hx hcls.1.lt) (Lib.tabBelow_of_tabIs hcls.2 wx hx)
    have HE : Hid (∀ (ca cb : List Value) (wx : World), TyAt wx n ca t → TyAt wx n cb t → Calls Tryz.prog 10 #[.agg ca.toArray, .agg cb.toArray] wx fun e w' => e = .returned (.bool true) ∧ Below wx.heap.size wx w') := fun ca cb wx ha hb => lawsEqTy n ca cb t wx ha hb hbk
    clear h hz1 hcls
    generalize putA (decide (Right n t 12)) n t = r at *
    generalize hB : Ty.bulk n t = B at *
    clear hB
    have hneg : ¬ (1048576 - (B : Int) < 0) := by omega
    go_enter Tryz.func3, Tryz.ntmps3
    go_wp2_with fail
    refine HZ.out.mono ?_
    rintro e w1 ⟨rfl, hb1⟩
    have D1 : Below (w.heap.size + 1) (w.alloc (.cells #[x0, x1, x2, x3] 25)) w1 := hb1.mono (by simp)
    have HA : Hid (∀ wx : World, Below (w.heap.size + 1) (w.alloc (.cells #[x0, x1, x2, x3] 25)) wx → Four wx w.heap.size x0 x1 x2 x3 ∧ Below w.heap.size w wx) := fun wx hx => ⟨four_new rfl hx, hB1.trans (hx.mono (by omega))⟩
    have hz1 : w.heap.size + 1 ≤ w1.heap.size := by have := hb1.size; simpa using this
    clear hb1 HZ
    obtain ⟨⟨a0, a1, a2, a3⟩, hw1⟩ := HA.out w1 D1
    go_wp2_with fail
    refine (HT.out _ hw1).mono ?_
    rintro e w2 ⟨an, ln, cn, ak, lk, ck, rfl, hn2, hb2⟩
    have D2 := D1.trans (hb2.mono hz1)
    have hz2 : w.heap.size + 1 ≤ w2.heap.size := Nat.le_trans hz1 hb2.size
    have hq2 := hn2.at
    clear a0 a1 a2 a3 hw1 hn2 D1 hz1 hb2
    obtain ⟨⟨a0, a1, a2, a3⟩, hw2⟩ := HA.out w2 D2
    go_wp2_with fail
    refine (HS.out _ w2 hq2).mono ?_
    rintro e w3 ⟨rfl, hb3⟩
    have D3 := D2.trans (hb3.mono hz2)
    have hz3 : w.heap.size + 1 ≤ w3.heap.size := Nat.le_trans hz2 hb3.size
    clear a0 a1 a2 a3 hw2 hq2 D2 hz2 hb3 HS
    obtain ⟨⟨a0, a1, a2, a3⟩, hw3⟩ := HA.out w3 D3
    go_wp2_with fail
    refine (HT.out _ hw3).mono ?_
    rintro e w4 ⟨bn, ln2, cn2, bk, lk2, ck2, rfl, hn4, hb4⟩
    have D4 := D3.trans (hb4.mono hz3)
    have hz4 : w.heap.size + 1 ≤ w4.heap.size := Nat.le_trans hz3 hb4.size
    have hq4 := hn4.own
    clear a0 a1 a2 a3 hw3 hn4 D3 hz3 hb4
    have D5 : Below (w.heap.size + 1) (w.alloc (.cells #[x0, x1, x2, x3] 25)) (w4.alloc (.cells #[.int .i64 t.kind, .string t.name, .slice bn ln2 cn2, .slice bk lk2 ck2] 30)) := D4.alloc hz4 _
    have hq5 : TyIn (w4.alloc (.cells #[.int .i64 t.kind, .string t.name, .slice bn ln2 cn2, .slice bk lk2 ck2] 30)) n _ _ [.int .i64 t.kind, .string t.name, .slice bn ln2 cn2, .slice bk lk2 ck2] t := hq4.below ((Below.refl _ _).alloc (Nat.le_refl _) _)
    have HJ : Hid (∀ wx : World, Below (w4.heap.size + 1) (w4.alloc (.cells #[.int .i64 t.kind, .string t.name, .slice bn ln2 cn2, .slice bk lk2 ck2] 30)) wx → Four wx w4.heap.size (.int .i64 t.kind) (.string t.name) (.slice bn ln2 cn2) (.slice bk lk2 ck2) ∧ TyAt wx n [.int .i64 t.kind, .string t.name, .slice bn ln2 cn2, .slice bk lk2 ck2] t) := fun wx hx => ⟨four_new rfl hx, hq5.at.below (hx.mono (by simp))⟩
    have HC := HI.out _ _ _ _ _ _ (fun b hb => by simp; omega) hq5.reads (hB1.trans (D5.mono (by omega)))
    have HC2 : Hid (type_of% HC) := HC
    clear hq4 hq5 D4 HI HC
    go_wp2_with fail
    refine HC2.out.mono ?_
    rintro e w6 ⟨rfl, hb6⟩
    have E6 : Below (w4.heap.size + 1) (w4.alloc (.cells #[.int .i64 t.kind, .string t.name, .slice bn ln2 cn2, .slice bk lk2 ck2] 30)) w6 := hb6.mono (by simp)
    have D6 : Below (w.heap.size + 1) (w.alloc (.cells #[x0, x1, x2, x3] 25)) w6 := D5.trans (hb6.mono (by simp; omega))
    have hz6 : w4.heap.size + 1 ≤ w6.heap.size := by have := hb6.size; simpa using this
    clear hb6 HC2 D5
    obtain ⟨⟨a0, a1, a2, a3⟩, hw6⟩ := HA.out w6 D6
    obtain ⟨⟨b0, b1, b2, b3⟩, hq6⟩ := HJ.out w6 E6
    go_wp2_with fail
    go_region_with (first | (go_at_call 8; refine (HT.out _ hw6.drew).mono ?_; rintro e w7 ⟨dn, ln3, cn3, dk, lk3, ck3, rfl, hn7, hb7⟩; have E7 := E6.drew.trans (hb7.mono hz6); have hw7 := hw6.drew.trans (hb7.mono hw6.size); obtain ⟨⟨c0, c1, c2, c3⟩, hq7⟩ := HJ.out w7 E7) | (go_at_call 10; refine (HE.out _ _ _ hq7 hn7.at).mono ?_; rintro e w8 ⟨rfl, hb8⟩))
    all_goals
      go_wp2_with fail
      go_ret
      exact ⟨rfl, hw7.trans (hb8.mono hw7.size)⟩
  · have hz1 : leftOf (Ty.bulk n t) 1048576 = -1 := if_neg (by omega)
    rw [hz1] at HZ
    clear h hbk hz1 hcls
    go_enter Tryz.func3, Tryz.ntmps3
    go_wp2_with fail
    refine HZ.out.mono ?_
    rintro e w1 ⟨rfl, hb1⟩
    go_wp2_with fail
    go_ret
    exact ⟨rfl, hB1.trans (hb1.mono (by simp))⟩

theorem laidOut : laidOutB Tryz.prog = true := by kernel_rfl

set_option maxRecDepth 100000 in
theorem contract (H : Type) (enc : TypeId × Value → H) (W : World) (base : Nat) (args : Array Value) (ds gs : List (DataW H)) (before : List MemPlace)
    (hval : ∀ (j : Nat) t v, Tryz.f3.params[j]? = some t → args[j]? = some v → Value.okWide Tryz.prog W .any base t v)
    (hW : DataW.Whole enc Tryz.prog Tryz.f3.params.toList Rows.fnExactPutTypeSpec.vars false W args.toList ds gs before) (hL : laidMetH Tryz.prog Rows.fnExactPutTypeRow.laid W) :
    Calls Tryz.prog 3 args W fun e W' => ∃ v, e = .returned v ∧ Rows.fnExactPutTypeSpec.post enc Tryz.prog Tryz.f3 false true false false W args v W' := by
  have hW' := hW
  obtain ⟨p, q, hA0, hV, rfl, hfz, hnd⟩ := hW
  have hA : DataW.TrodAll enc Tryz.prog W 0 (fun _ => true) true Tryz.f3.params.toList args.toList ds p := hA0
  rw [Tryz.params3] at hA hval
  obtain ⟨v0, vs0, d0, ds0, p0, q0, hargs, rfl, rfl, h0, r0⟩ := trodAll_cons hA
  obtain ⟨rfl, rfl, rfl⟩ := trodAll_nil r0
  obtain rfl : args = #[v0] := by cases args; simp_all
  have hV0 := hV
  obtain ⟨g0, t0, cs0, fu0, dv, pv, rfl, _, _, _, _, _⟩ := trodVars_one hV
  obtain ⟨cs, rfl, hcs⟩ := okWide_struct Tryz.underlying25 (hval 0 25 v0 rfl rfl)
  have k0 := h0
  have lt0 : ∀ x ∈ p0, x.block < W.heap.size := by obtain ⟨m, hm⟩ := k0; exact DataW.trod_lt m _ _ _ hm
  obtain ⟨fuel, hf⟩ := h0
  obtain ⟨t, ht⟩ := opened_ty fuel _ _ hf
  clear hA0
  refine (walk fuel _ t W ht (table hL)).mono fun e W' ⟨he, bel⟩ => ?_
  subst he
  exact ⟨_, rfl, _, _, _, [], _, _, hW', trodAll_mk1 (shut_bool Tryz.underlying4 _), (trodAll_cons_mk (Below.trod laidOut (by kernel_rfl) (of_decide_eq_true (by kernel_rfl)) k0 bel lt0) trodAll_mk0), Below.trodVars laidOut bel (by kernel_rfl) hV0, bel.frame _, fun h => by cases h⟩

theorem laid_met (os : Os) : laidMet Tryz.prog Rows.fnExactPutTypeRow.laid ((laidWorld4 Tryz.prog os).forCall (fun _ _ => 0) ⟨#[], #[.agg #[.int .i64 0, .string ⟨#[]⟩, .slice none 0 0, .slice none 0 0]], []⟩).memory :=
  laidMet_of_run' 8 (by kernel_rfl) (by kernel_rfl)
theorem reads (os : Os) {H : Type} (enc : TypeId × Value → H) : ∃ places, DataW.whole enc Tryz.prog ((laidWorld4 Tryz.prog os).forCall (fun _ _ => 0) ⟨#[], #[.agg #[.int .i64 0, .string ⟨#[]⟩, .slice none 0 0, .slice none 0 0]], []⟩).memory Tryz.f3.params.toList Rows.fnExactPutTypeSpec.vars false #[Value.agg #[.int .i64 0, .string ⟨#[]⟩, .slice none 0 0, .slice none 0 0]].toList 8 = some ([.agg [.lit (.int .i64 0), .lit (.string []), .nil, .nil]], [Rows.laid_loop_example_g00276_impl_classes], places) :=
  ⟨MemPlace.row ⟨0, 0, none⟩ 128, by kernel_rfl⟩

set_option maxRecDepth 100000 in
theorem lifted (os : Os) (started : os.Started) (H : Type) (enc : TypeId × Value → H) (F : Stop.Interp) :
    ReturnsInHanded {} Tryz.checked os 3 .any ((OpenSpec.ofChange Rows.fnExactPutTypeSpec).preRow enc Tryz.prog Tryz.f3 Rows.fnExactPutTypeRow.domain false Rows.fnExactPutTypeRow.laid) (((OpenSpec.ofChange Rows.fnExactPutTypeSpec).at F).post enc Tryz.prog Tryz.f3 false true false false) := by
  obtain ⟨places, hx⟩ := reads os enc
  refine returnsInHanded_of_row (C := Tryz.checked) (s := OpenSpec.ofChange Rows.fnExactPutTypeSpec) own started (by kernel_rfl) Tryz.func3
    (witness_row_at (enc := enc) (C := Tryz.checked) false (laidWorld4 Tryz.prog os) #[.agg #[.int .i64 0, .string ⟨#[]⟩, .slice none 0 0, .slice none 0 0]] rfl (by kernel_rfl) (by kernel_rfl) (by kernel_rfl)
      (OpenSpec.preRow_of_cond 8 hx (by kernel_rfl) (fun k hk => by cases hk) (by kernel_rfl) (laid_met os))) ?_
  intro W base args ds gs before hval hW _ _ _ hL _ _
  exact contract H enc W base args ds gs before hval hW hL

theorem said : Rows.FnExactPutTypeSaid :=
  OpenClaim.holds_of_cond 3 Tryz.f3 rfl rfl rfl rfl rfl rfl rfl ⟨rfl, rfl, rfl, rfl, rfl⟩ rfl rfl rfl rfl rfl (by kernel_rfl) Tryz.func3 (by kernel_rfl)
    (of_decide_eq_true (by kernel_rfl)) (by unfold Func.isWrapper; first | (rw [if_pos (by decide +kernel)]; kernel_rfl) | (rw [if_neg (by decide +kernel)]; exact ⟨rfl, rfl⟩))
    (fun os started H enc _ F => by rw [OpenClaim.pre_eq_preRow]; exact lifted os started H enc F)

theorem plain (f : FuncId) (fn : Func) (hf : Tryz.pinned.checked.prog.funcNamed "loop.example/g00276/laws.FnExactPutType" = some f) (hfn : Tryz.pinned.checked.prog.funcs[f]? = some fn) :
    Rows.fnExactPutTypeCard.stood.looks = Tryz.pinned.checked.prog.looks [] ∧ ∀ (j : Nat) t, fn.params[j]? = some t → Tryz.pinned.checked.prog.wantsStandIn t = false := by
  obtain rfl : f = 3 := Option.some.inj ((show Tryz.prog.funcNamed "loop.example/g00276/laws.FnExactPutType" = some 3 by kernel_rfl).symm.trans hf) |>.symm
  obtain rfl : fn = Tryz.f3 := (Option.some.inj (Tryz.func3.symm.trans hfn)).symm
  refine ⟨by kernel_rfl, fun j t ht => ?_⟩
  rw [Tryz.params3] at ht
  obtain rfl : t = 25 := by simpa using Array.mem_of_getElem? ht
  exact (show Tryz.prog.wantsStandIn 25 = false by kernel_rfl)

end Go.Proofs.YtbojmbeopnlmiaaGreatDoor.exactPutType

namespace Go.Proofs.YtbojmbeopnlmiaaGreatDoor

theorem exactPutType_holds : Rows.FnExactPutTypeCardSaid :=
  Claim7.holds_tied_plain_at .later [] _ _ _ _ exactPutType.said (fun _ h => by cases h) (by kernel_rfl) (fun _ h => by cases h) fnExactPutType_row_tie rfl ⟨rfl, rfl⟩ (by kernel_rfl) rfl exactPutType.plain (by kernel_rfl)

end Go.Proofs.YtbojmbeopnlmiaaGreatDoor

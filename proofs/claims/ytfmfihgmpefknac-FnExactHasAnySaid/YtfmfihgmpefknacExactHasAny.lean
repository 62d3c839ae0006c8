/-
  At every type impl.HasAny answers as the specification does (the law itself passes types that hold more than 1048576 by), and nothing that was there has turned. No condition.
-/
import Derived.Test.YtfmfihgmpefknacHasAnyI
import Derived.Test.YtfmfihgmpefknacHasAnyS
import Derived.Test.YtfmfihgmpefknacTyO
import Derived.ProofKit
import Derived.OpenShut
import Derived.ChangeOld
namespace Go.Proofs.Ytfmfihgmpefknac.exactHasAny
open Go.ChangeShapes Go.WideShapes Go.ChangeAt Go.RowKit

theorem own : ownKnob Try.prog.godebug = none := by kernel_rfl
theorem laidOut : laidOutB Try.prog = true := by kernel_rfl

/-- four cells of a block -/
def Four (w : World) (b : Nat) (x0 x1 x2 x3 : Value) : Prop := w.cell? ⟨b, 0, none⟩ = some x0 ∧ w.cell? ⟨b, 1, none⟩ = some x1 ∧ w.cell? ⟨b, 2, none⟩ = some x2 ∧ w.cell? ⟨b, 3, none⟩ = some x3
theorem four_new {w wx : World} {b : Nat} {x0 x1 x2 x3 : Value} {ty : TypeId} (e : b = w.heap.size) (hb : Below (b + 1) (w.alloc (.cells #[x0, x1, x2, x3] ty)) wx) : Four wx b x0 x1 x2 x3 := by
  refine ⟨?_, ?_, ?_, ?_⟩
  · rw [hb.cell (p := ⟨b, 0, none⟩) (Nat.lt_succ_self _), cellNew _ e]; rfl
  · rw [hb.cell (p := ⟨b, 1, none⟩) (Nat.lt_succ_self _), cellNew _ e]; rfl
  · rw [hb.cell (p := ⟨b, 2, none⟩) (Nat.lt_succ_self _), cellNew _ e]; rfl
  · rw [hb.cell (p := ⟨b, 3, none⟩) (Nat.lt_succ_self _), cellNew _ e]; rfl

set_option maxHeartbeats 1600000 in
set_option maxRecDepth 100000 in
theorem walk (n : Nat) (cs : List Value) (t : Ty) (w : World) (h : TyAt w n cs t) :
    Calls Try.prog 3 #[.agg cs.toArray] w fun e w' => e = .returned (.bool true) ∧ Below w.heap.size w w' := by
  obtain ⟨x0, x1, x2, x3, rfl⟩ : ∃ x0 x1 x2 x3, cs = [x0, x1, x2, x3] := by
    have hl := h.len
    match cs, hl with
    | [x0, x1, x2, x3], _ => exact ⟨x0, x1, x2, x3, rfl⟩
  have hB1 : Below w.heap.size w (w.alloc (.cells #[x0, x1, x2, x3] 25)) := (Below.refl _ _).alloc (Nat.le_refl _) _
  have HZ : Hid (Calls Try.prog 5 #[.agg #[x0, x1, x2, x3], .int .i64 1048576] (w.alloc (.cells #[x0, x1, x2, x3] 25)) fun e w' => e = .returned (.int .i64 (leftOf (Ty.bulk n t) 1048576)) ∧ Below (w.alloc (.cells #[x0, x1, x2, x3] 25)).heap.size (w.alloc (.cells #[x0, x1, x2, x3] 25)) w') := lawsSzTy n _ t 1048576 _ (h.below hB1) (by omega) (by omega)
  by_cases hbk : Ty.bulk n t ≤ 1048576
  · have hz1 : leftOf (Ty.bulk n t) 1048576 = 1048576 - (Ty.bulk n t : Nat) := if_pos (by omega)
    rw [hz1] at HZ
    have HT : Hid (∀ wx : World, Below w.heap.size w wx → Calls Try.prog 7 #[.agg #[x0, x1, x2, x3]] wx fun e w' => ∃ an ln cn ak lk ck, e = .returned (.agg #[.int .i64 t.kind, .string t.name, .slice an ln cn, .slice ak lk ck]) ∧ NewTy wx.heap.size w'.heap.size w' n [.int .i64 t.kind, .string t.name, .slice an ln cn, .slice ak lk ck] t ∧ Below wx.heap.size wx w') := fun wx hx => lawsToTy n _ t wx (h.below hx) hbk
    have HS : Hid (∀ (cs : List Value) (wx : World), TyAt wx n cs t → Calls Try.prog 6 #[.agg cs.toArray] wx fun e w' => e = .returned (.bool (Ty.hasAny n t)) ∧ Below wx.heap.size wx w') := fun cs wx h => specHasAny n cs t wx h
    have HI : Hid (∀ (lo hi : Nat) (cs : List Value) (wx : World), TyIn wx n lo hi cs t → Calls Try.prog 8 #[.agg cs.toArray] wx fun e w' => e = .returned (.bool (Ty.hasAny n t)) ∧ Below wx.heap.size wx w') := fun lo hi cs wx h => implHasAny n lo hi cs t wx h hbk
    have HE : Hid (∀ (ca cb : List Value) (wx : World), TyAt wx n ca t → TyAt wx n cb t → Calls Try.prog 9 #[.agg ca.toArray, .agg cb.toArray] wx fun e w' => e = .returned (.bool true) ∧ Below wx.heap.size wx w') := fun ca cb wx ha hb => lawsEqTy n ca cb t wx ha hb hbk
    clear h hz1
    generalize Ty.hasAny n t = r at *
    have hr : (r != r) = false := by cases r <;> rfl
    generalize hB : Ty.bulk n t = B at *
    clear hB
    have hneg : ¬ (1048576 - (B : Int) < 0) := by omega
    go_enter Try.func3, Try.ntmps3
    go_wp2_with fail
    refine HZ.out.mono ?_
    rintro e w1 ⟨rfl, hb1⟩
    have D1 : Below (w.heap.size + 1) (w.alloc (.cells #[x0, x1, x2, x3] 25)) w1 := hb1.mono (by simp)
    have HA : Hid (∀ wx : World, Below (w.heap.size + 1) (w.alloc (.cells #[x0, x1, x2, x3] 25)) wx → Four wx w.heap.size x0 x1 x2 x3 ∧ Below w.heap.size w wx) := fun wx hx => ⟨four_new rfl hx, hB1.trans (hx.mono (by omega))⟩
    have hz1 : w.heap.size + 1 ≤ w1.heap.size := by have := hb1.size; simpa using this
    clear hb1 HZ
    obtain ⟨⟨a0, a1, a2, a3⟩, hw1⟩ := HA.out w1 D1
    go_wp2_with fail
    refine (HT.out _ hw1).mono ?_
    rintro e w2 ⟨an, ln, cn, ak, lk, ck, rfl, hn2, hb2⟩
    have D2 := D1.trans (hb2.mono hz1)
    have hz2 : w.heap.size + 1 ≤ w2.heap.size := Nat.le_trans hz1 hb2.size
    have hq2 := hn2.at
    clear a0 a1 a2 a3 hw1 hn2 D1 hz1 hb2
    obtain ⟨⟨a0, a1, a2, a3⟩, hw2⟩ := HA.out w2 D2
    go_wp2_with fail
    refine (HS.out _ w2 hq2).mono ?_
    rintro e w3 ⟨rfl, hb3⟩
    have D3 := D2.trans (hb3.mono hz2)
    have hz3 : w.heap.size + 1 ≤ w3.heap.size := Nat.le_trans hz2 hb3.size
    clear a0 a1 a2 a3 hw2 hq2 D2 hz2 hb3 HS
    obtain ⟨⟨a0, a1, a2, a3⟩, hw3⟩ := HA.out w3 D3
    go_wp2_with fail
    refine (HT.out _ hw3).mono ?_
    rintro e w4 ⟨bn, ln2, cn2, bk, lk2, ck2, rfl, hn4, hb4⟩
    have D4 := D3.trans (hb4.mono hz3)
    have hz4 : w.heap.size + 1 ≤ w4.heap.size := Nat.le_trans hz3 hb4.size
    have hq4 := hn4.own
    clear a0 a1 a2 a3 hw3 hn4 D3 hz3 hb4
    have D5 : Below (w.heap.size + 1) (w.alloc (.cells #[x0, x1, x2, x3] 25)) (w4.alloc (.cells #[.int .i64 t.kind, .string t.name, .slice bn ln2 cn2, .slice bk lk2 ck2] 30)) := D4.alloc hz4 _
    have hq5 : TyIn (w4.alloc (.cells #[.int .i64 t.kind, .string t.name, .slice bn ln2 cn2, .slice bk lk2 ck2] 30)) n _ _ [.int .i64 t.kind, .string t.name, .slice bn ln2 cn2, .slice bk lk2 ck2] t := hq4.below ((Below.refl _ _).alloc (Nat.le_refl _) _)
    have HJ : Hid (∀ wx : World, Below (w4.heap.size + 1) (w4.alloc (.cells #[.int .i64 t.kind, .string t.name, .slice bn ln2 cn2, .slice bk lk2 ck2] 30)) wx → Four wx w4.heap.size (.int .i64 t.kind) (.string t.name) (.slice bn ln2 cn2) (.slice bk lk2 ck2) ∧ TyAt wx n [.int .i64 t.kind, .string t.name, .slice bn ln2 cn2, .slice bk lk2 ck2] t) := fun wx hx => ⟨four_new rfl hx, hq5.at.below (hx.mono (by simp))⟩
    have HC := HI.out _ _ _ _ hq5
    have HC2 : Hid (type_of% HC) := HC
    clear hq4 hq5 D4 HI HC
    go_wp2_with fail
    refine HC2.out.mono ?_
    rintro e w6 ⟨rfl, hb6⟩
    have E6 : Below (w4.heap.size + 1) (w4.alloc (.cells #[.int .i64 t.kind, .string t.name, .slice bn ln2 cn2, .slice bk lk2 ck2] 30)) w6 := hb6.mono (by simp)
    have D6 : Below (w.heap.size + 1) (w.alloc (.cells #[x0, x1, x2, x3] 25)) w6 := D5.trans (hb6.mono (by simp; omega))
    have hz6 : w4.heap.size + 1 ≤ w6.heap.size := by have := hb6.size; simpa using this
    clear hb6 HC2 D5
    obtain ⟨⟨a0, a1, a2, a3⟩, hw6⟩ := HA.out w6 D6
    obtain ⟨⟨b0, b1, b2, b3⟩, hq6⟩ := HJ.out w6 E6
    go_wp2_with fail
    go_region_with (first | (go_at_call 7; refine (HT.out _ hw6.drew).mono ?_; rintro e w7 ⟨dn, ln3, cn3, dk, lk3, ck3, rfl, hn7, hb7⟩; have E7 := E6.drew.trans (hb7.mono hz6); have hw7 := hw6.drew.trans (hb7.mono hw6.size); obtain ⟨⟨c0, c1, c2, c3⟩, hq7⟩ := HJ.out w7 E7) | (go_at_call 9; refine (HE.out _ _ _ hq7 hn7.at).mono ?_; rintro e w8 ⟨rfl, hb8⟩))
    all_goals
      go_wp2_with fail
      go_ret
      exact ⟨rfl, hw7.trans (hb8.mono hw7.size)⟩
  · have hz1 : leftOf (Ty.bulk n t) 1048576 = -1 := if_neg (by omega)
    rw [hz1] at HZ
    clear h hbk hz1
    go_enter Try.func3, Try.ntmps3
    go_wp2_with fail
    refine HZ.out.mono ?_
    rintro e w1 ⟨rfl, hb1⟩
    go_wp2_with fail
    go_ret
    exact ⟨rfl, hB1.trans (hb1.mono (by simp))⟩

set_option maxRecDepth 100000 in
theorem lifted (os : Os) (started : os.Started) (H : Type) (enc : TypeId × Value → H) :
    ReturnsInHanded {} Try.checked os 3 .any (Rows.fnExactHasAnySpec.pre6 enc Try.prog Try.f3 Rows.fnExactHasAnyRow.domain false) (Rows.fnExactHasAnySpec.post enc Try.prog Try.f3 false true false false) := by
  refine returnsInHanded_of_change (C := Try.checked) own started (by kernel_rfl) Try.func3
    (ChangeSpec.witness6 (enc := enc) (C := Try.checked) false ⟨#[], #[.agg #[.int .i64 0, .string ⟨#[]⟩, .slice none 0 0, .slice none 0 0]], []⟩ 8 (by kernel_rfl) (by kernel_rfl) (by kernel_rfl) (by kernel_rfl)) ?_
  intro W base args ds gs before hval0 hW hcnd _
  have hval : ∀ (j : Nat) t v, Try.f3.params[j]? = some t → args[j]? = some v → Value.okWide Try.prog W .any base t v := hval0
  have hW' := hW
  obtain ⟨p, q, hA0, hV, rfl, hfz, hnd⟩ := hW
  have hA : DataW.TrodAll enc Try.prog W 0 (fun _ => true) true Try.f3.params.toList args.toList ds p := hA0
  rw [Try.params3] at hA hval
  obtain ⟨v0, vs0, d0, ds0, p0, q0, hargs, rfl, rfl, h0, r0⟩ := trodAll_cons hA
  obtain ⟨rfl, rfl, rfl⟩ := trodAll_nil r0
  obtain rfl : args = #[v0] := by cases args; simp_all
  obtain ⟨rfl, rfl⟩ := trodVars_none hV
  obtain ⟨cs, rfl, hcs⟩ := okWide_struct Try.underlying25 (hval 0 25 v0 rfl rfl)
  have k0 := h0
  have lt0 : ∀ x ∈ p0, x.block < W.heap.size := by obtain ⟨m, hm⟩ := k0; exact DataW.trod_lt m _ _ _ hm
  obtain ⟨fuel, hf⟩ := h0
  obtain ⟨t, ht⟩ := opened_ty fuel _ _ hf
  clear hA0 hval0
  refine (walk fuel _ t W ht).mono fun e W' ⟨he, bel⟩ => ?_
  subst he
  exact ⟨_, rfl, _, _, _, [], _, [], hW', trodAll_mk1 (shut_bool Try.underlying4 _), (trodAll_cons_mk (Below.trod laidOut (by kernel_rfl) (of_decide_eq_true (by kernel_rfl)) k0 bel lt0) trodAll_mk0), rfl, bel.frame _, fun h => by cases h⟩

theorem over : Rows.fnExactHasAnyRow.holds Try.pinned (OpenSpec.ofChange Rows.fnExactHasAnySpec) :=
  OpenClaim.holds_of_wide 3 Try.f3 rfl rfl rfl rfl rfl rfl rfl ⟨rfl, rfl, rfl, rfl, rfl⟩ rfl rfl rfl rfl rfl (by kernel_rfl) Try.func3 (by kernel_rfl)
    (of_decide_eq_true (by kernel_rfl)) (by unfold Func.isWrapper; first | (rw [if_pos (by decide +kernel)]; kernel_rfl) | (rw [if_neg (by decide +kernel)]; exact ⟨rfl, rfl⟩))
    (fun os started H enc _ => lifted os started H enc)

end Go.Proofs.Ytfmfihgmpefknac.exactHasAny

namespace Go.Proofs.Ytfmfihgmpefknac

theorem exactHasAny_holds : Rows.FnExactHasAnySaid := exactHasAny.over

end Go.Proofs.Ytfmfihgmpefknac

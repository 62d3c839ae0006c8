/-
  spec.TypeText at every type.
-/
import Derived.Test.YthfgdeaofghnkacDoorRightV
namespace Go.Proofs.YthfgdeaofghnkacDoor
open Go.RowKit

/-- a type's text, where it is right -/
noncomputable def Ty.typeText (n : Nat) (t : Ty) : ByteArray := open Classical in if Right n t 12 then Ty.text n t else ⟨#[]⟩

set_option maxHeartbeats 800000 in
set_option maxRecDepth 100000 in
open Classical in
theorem specTypeText (n : Nat) (cs : List Value) (t : Ty) (w : World) (h : TyAt w n cs t) (hb : Ty.bulk n t ≤ 1048576) :
    Calls Tryd.prog 19 #[.agg cs.toArray] w fun e w' => e = .returned (.string (Ty.typeText n t)) ∧ Below w.heap.size w w' := by
  obtain ⟨x0, x1, x2, x3, rfl⟩ : ∃ x0 x1 x2 x3, cs = [x0, x1, x2, x3] := by
    have hl := h.len
    match cs, hl with
    | [x0, x1, x2, x3], _ => exact ⟨x0, x1, x2, x3, rfl⟩
  have hB1 : Below w.heap.size w (w.alloc (.cells #[x0, x1, x2, x3] 36)) := (Below.refl _ _).alloc (Nat.le_refl _) _
  have HC := specTypeOk n [x0, x1, x2, x3] t _ (h.below hB1) hb
  have HT : Hid (∀ wx : World, Below w.heap.size w wx → Right n t 12 → Calls Tryd.prog 43 #[.agg #[x0, x1, x2, x3]] wx fun e w' => e = .returned (.string (Ty.text n t)) ∧ Below wx.heap.size wx w') := fun wx hx hr => specText n [x0, x1, x2, x3] t wx (h.below hx) hr.fine hb
  by_cases hr : Right n t 12
  · rw [decide_eq_true hr] at HC
    have HR : Hid (Ty.typeText n t = Ty.text n t) := if_pos hr
    have HC2 : Hid (type_of% HC) := HC
    have HT2 : Hid (∀ wx : World, Below w.heap.size w wx → Calls Tryd.prog 43 #[.agg #[x0, x1, x2, x3]] wx fun e w' => e = .returned (.string (Ty.text n t)) ∧ Below wx.heap.size wx w') := fun wx hx => HT.out wx hx hr
    clear HC h HT hr
    generalize Ty.text n t = T at *
    go_enter Tryd.func19, Tryd.ntmps19
    go_wp2_with fail
    refine HC2.out.mono ?_
    rintro e w1 ⟨rfl, hb1⟩
    have hbw1 : Below w.heap.size w w1 := hB1.trans (hb1.mono (by simp))
    have D1 : Below (w.heap.size + 1) (w.alloc (.cells #[x0, x1, x2, x3] 36)) w1 := hb1.mono (by simp)
    obtain ⟨⟨c0, c1, c2, c3⟩, _, _⟩ := boxedR D1
    go_wp2_with fail
    refine (HT2.out _ hbw1).mono ?_
    rintro e w2 ⟨rfl, hb2⟩
    go_wp2_with fail
    go_ret
    exact ⟨by rw [HR.out]; rfl, hbw1.trans (hb2.mono hbw1.size)⟩
  · rw [decide_eq_false hr] at HC
    have HR : Hid (Ty.typeText n t = ⟨#[]⟩) := if_neg hr
    have HC2 : Hid (type_of% HC) := HC
    clear HC h HT hr
    go_enter Tryd.func19, Tryd.ntmps19
    go_wp2_with fail
    refine HC2.out.mono ?_
    rintro e w1 ⟨rfl, hb1⟩
    go_wp2_with fail
    go_ret
    exact ⟨by rw [HR.out]; rfl, hB1.trans (hb1.mono (by simp))⟩

end Go.Proofs.YthfgdeaofghnkacDoor

/-
  The walk of impl.TypeText.
-/
import Derived.Test.YthfgdeaofghnkacDoorFormY
import Derived.Test.YthfgdeaofghnkacDoorRightW
namespace Go.Proofs.YthfgdeaofghnkacDoor
open Go.RowKit Go.Shelf

set_option maxHeartbeats 800000 in
set_option maxRecDepth 100000 in
open Classical in
theorem implTypeText (n : Nat) (cs : List Value) (t : Ty) (w : World) (h : TyAt w n cs t) (hb : Ty.bulk n t ≤ 1048576) (hc : ClsIs w) :
    Calls Tryd.prog 20 #[.agg cs.toArray] w fun e w' => e = .returned (.string (Ty.typeText n t)) ∧ Below w.heap.size w w' := by
  have hB1 : Below w.heap.size w (w.alloc (.cells cs.toArray 36)) := (Below.refl _ _).alloc (Nat.le_refl _) _
  have HC := implFormOf n w cs t 0 (w.alloc (.cells cs.toArray 36)) h hB1 hb (by omega) hc hc.lt
  obtain ⟨x0, x1, x2, x3, rfl⟩ : ∃ x0 x1 x2 x3, cs = [x0, x1, x2, x3] := by
    have hl := h.len
    match cs, hl with
    | [x0, x1, x2, x3], _ => exact ⟨x0, x1, x2, x3, rfl⟩
  have HC2 : Hid (type_of% HC) := HC
  clear HC h hc
  go_enter Tryd.func20, Tryd.ntmps20
  go_wp2_with fail
  refine HC2.out.mono ?_
  rintro e w1 ⟨v, ok, rfl, hok, hfm, hb1⟩
  have hok' : ok = true ↔ Right n t 12 := by simpa using hok
  have hbw1 : Below w.heap.size w w1 := hB1.trans (hb1.mono (by simp))
  cases ok with
  | false =>
    have HE : Hid (Ty.typeText n t = ⟨#[]⟩) := if_neg fun h => by have := hok'.2 h; cases this
    clear hok hok' hfm
    go_wp2_with fail
    go_ret
    exact ⟨by rw [HE.out]; rfl, hbw1⟩
  | true =>
    have hr : Right n t 12 := hok'.1 rfl
    have HE : Hid (Ty.typeText n t = Ty.text n t) := if_pos hr
    have HT := implTextOf n v t 12 w1 (hfm rfl).at hr hb
    have HT2 : Hid (type_of% HT) := HT
    clear hok hok' hfm HT hr HC2
    go_wp2_with fail
    refine HT2.out.mono ?_
    rintro e w2 ⟨rfl, hb2⟩
    go_wp2_with fail
    go_ret
    exact ⟨by rw [HE.out]; rfl, hbw1.trans (hb2.mono hbw1.size)⟩

end Go.Proofs.YthfgdeaofghnkacDoor

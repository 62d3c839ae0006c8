/-
  The walk of impl.TypeOk.
-/
import Derived.Test.YthfgdeaofghnkacDoorFormE
namespace Go.Proofs.YthfgdeaofghnkacDoor
open Go.RowKit Go.Shelf

set_option maxHeartbeats 800000 in
set_option maxRecDepth 100000 in
open Classical in
theorem implTypeOk (n : Nat) (cs : List Value) (t : Ty) (w : World) (h : TyAt w n cs t) (hb : Ty.bulk n t ≤ 1048576) (hc : ClsIs w) :
    Calls Tryd.prog 17 #[.agg cs.toArray] w fun e w' => e = .returned (.bool (decide (Right n t 12))) ∧ Below w.heap.size w w' := by
  have hB1 : Below w.heap.size w (w.alloc (.cells cs.toArray 36)) := (Below.refl _ _).alloc (Nat.le_refl _) _
  have HC := implFormOf n w cs t 0 (w.alloc (.cells cs.toArray 36)) h hB1 hb (by omega) hc hc.lt
  obtain ⟨x0, x1, x2, x3, rfl⟩ : ∃ x0 x1 x2 x3, cs = [x0, x1, x2, x3] := by
    have hl := h.len
    match cs, hl with
    | [x0, x1, x2, x3], _ => exact ⟨x0, x1, x2, x3, rfl⟩
  have HC2 : Hid (type_of% HC) := HC
  clear HC h hc
  go_enter Tryd.func17, Tryd.ntmps17
  go_wp2_with fail
  refine HC2.out.mono ?_
  rintro e w1 ⟨v, ok, rfl, hok, _, hb1⟩
  have e : ok = decide (Right n t 12) := by
    by_cases hr : Right n t 12
    · rw [decide_eq_true hr]; exact hok.2 (by simpa using hr)
    · rw [decide_eq_false hr]
      cases ok with
      | false => rfl
      | true => exact absurd (hok.1 rfl) (by simpa using hr)
  have HE : Hid (type_of% e) := e
  clear e hok
  go_wp2_with fail
  go_ret
  exact ⟨by rw [HE.out]; rfl, hB1.trans (hb1.mono (by simp))⟩

end Go.Proofs.YthfgdeaofghnkacDoor

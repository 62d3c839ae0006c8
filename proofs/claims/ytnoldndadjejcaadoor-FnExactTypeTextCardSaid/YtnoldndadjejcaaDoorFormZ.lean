/-
  The walks of impl.TypeOk and impl.TypeText.
-/
import Derived.Test.YtnoldndadjejcaaDoorFormE
namespace Go.Proofs.YtnoldndadjejcaaDoor
open Go.RowKit Go.Shelf

set_option maxHeartbeats 800000 in
set_option maxRecDepth 100000 in
open Classical in
theorem implTypeOk (n : Nat) (cs : List Value) (t : Ty) (w : World) (h : TyAt w n cs t) (hb : Ty.bulk n t ≤ 1048576) (hc : ClsIs w) :
    Calls Tryd.prog 8 #[.agg cs.toArray] w fun e w' => e = .returned (.bool (decide (Right n t 12))) ∧ Below w.heap.size w w' := by
  have hB1 : Below w.heap.size w (w.alloc (.cells cs.toArray 30)) := (Below.refl _ _).alloc (Nat.le_refl _) _
  have HC := implFormOf n w cs t 0 (w.alloc (.cells cs.toArray 30)) h hB1 hb (by omega) hc hc.lt
  obtain ⟨x0, x1, x2, x3, rfl⟩ : ∃ x0 x1 x2 x3, cs = [x0, x1, x2, x3] := by
    have hl := h.len
    match cs, hl with
    | [x0, x1, x2, x3], _ => exact ⟨x0, x1, x2, x3, rfl⟩
  have HC2 : Hid (type_of% HC) := HC
  clear HC h hc
  go_enter Tryd.func8, Tryd.ntmps8
  go_wp2_with fail
  refine HC2.out.mono ?_
  rintro e w1 ⟨v, ok, rfl, hok, _, hb1⟩
  have e : ok = decide (Right n t 12) := by
    by_cases hr : Right n t 12
    · rw [decide_eq_true hr]; exact hok.2 (by simpa using hr)
    · rw [decide_eq_false hr]
      cases ok with
      | false => rfl
      | true => exact absurd (hok.1 rfl) (by simpa using hr)
  have HE : Hid (type_of% e) := e
  clear e hok
  go_wp2_with fail
  go_ret
  exact ⟨by rw [HE.out]; rfl, hB1.trans (hb1.mono (by simp))⟩

set_option maxHeartbeats 800000 in
set_option maxRecDepth 100000 in
open Classical in
theorem implTypeText (n : Nat) (cs : List Value) (t : Ty) (w : World) (h : TyAt w n cs t) (hb : Ty.bulk n t ≤ 1048576) (hc : ClsIs w) :
    Calls Tryd.prog 11 #[.agg cs.toArray] w fun e w' => e = .returned (.string (Ty.typeText n t)) ∧ Below w.heap.size w w' := by
  have hB1 : Below w.heap.size w (w.alloc (.cells cs.toArray 30)) := (Below.refl _ _).alloc (Nat.le_refl _) _
  have HC := implFormOf n w cs t 0 (w.alloc (.cells cs.toArray 30)) h hB1 hb (by omega) hc hc.lt
  obtain ⟨x0, x1, x2, x3, rfl⟩ : ∃ x0 x1 x2 x3, cs = [x0, x1, x2, x3] := by
    have hl := h.len
    match cs, hl with
    | [x0, x1, x2, x3], _ => exact ⟨x0, x1, x2, x3, rfl⟩
  have HC2 : Hid (type_of% HC) := HC
  clear HC h hc
  go_enter Tryd.func11, Tryd.ntmps11
  go_wp2_with fail
  refine HC2.out.mono ?_
  rintro e w1 ⟨v, ok, rfl, hok, hfm, hb1⟩
  have hok' : ok = true ↔ Right n t 12 := by simpa using hok
  have hbw1 : Below w.heap.size w w1 := hB1.trans (hb1.mono (by simp))
  cases ok with
  | false =>
    have HE : Hid (Ty.typeText n t = ⟨#[]⟩) := if_neg fun h => by have := hok'.2 h; cases this
    clear hok hok' hfm
    go_wp2_with fail
    go_ret
    exact ⟨by rw [HE.out]; rfl, hbw1⟩
  | true =>
    have hr : Right n t 12 := hok'.1 rfl
    have HE : Hid (Ty.typeText n t = Ty.text n t) := if_pos hr
    have HT := implTextOf n v t 12 w1 (hfm rfl).at hr hb
    have HT2 : Hid (type_of% HT) := HT
    clear hok hok' hfm HT hr HC2
    go_wp2_with fail
    refine HT2.out.mono ?_
    rintro e w2 ⟨rfl, hb2⟩
    go_wp2_with fail
    go_ret
    exact ⟨by rw [HE.out]; rfl, hbw1.trans (hb2.mono hbw1.size)⟩

end Go.Proofs.YtnoldndadjejcaaDoor

/-
  The walk of impl.HasAny: whether any is in a type.
-/
import Derived.Test.YtfmfihgmpefknacPartsW
namespace Go.Proofs.Ytfmfihgmpefknac
open Go.RowKit

theorem any_of {N l : List Ty} (h : N.Perm l) (f : Ty → Bool) : N.any f = l.any f := by
  rw [Bool.eq_iff_iff, List.any_eq_true, List.any_eq_true]
  constructor
  · rintro ⟨x, hx, e⟩; exact ⟨x, h.mem_iff.1 hx, e⟩
  · rintro ⟨x, hx, e⟩; exact ⟨x, h.mem_iff.2 hx, e⟩

set_option maxHeartbeats 1600000 in
set_option maxRecDepth 100000 in
theorem implHasAny (n lo hi : Nat) (cs : List Value) (t : Ty) (w : World) (h : TyIn w n lo hi cs t) (hbk : Ty.bulk n t ≤ 1048576) :
    Calls Try.prog 8 #[.agg cs.toArray] w fun e w' => e = .returned (.bool (Ty.hasAny n t)) ∧ Below w.heap.size w w' := by
  obtain ⟨x0, x1, x2, x3, rfl⟩ : ∃ x0 x1 x2 x3, cs = [x0, x1, x2, x3] := by
    obtain ⟨an, ln, cn, ak, lk, ck, e⟩ := h.shape
    exact ⟨_, _, _, _, e⟩
  have hN : (Ty.nodes n t).length ≤ 1048577 := by have := nodes_len n t; omega
  have HY : Hid (Ty.hasAny n t = (Ty.nodes n t).any (fun u => decide (u.kind = 3))) := any_nodes n t
  have HC : Hid (∀ wx : World, Below w.heap.size w wx → Calls Try.prog 20 #[.agg #[x0, x1, x2, x3]] wx fun e w' => ∃ (ao : Option Addr) (cap : Nat) (l : List Ent), e = .returned (.slice ao l.length cap) ∧ w'.ownsRow wx.heap.size 30 4 (.slice ao l.length cap) l.length (flatE l) ∧ (Ty.nodes n t).Perm (l.map (·.t)) ∧ (∀ p ∈ l, p.up wx) ∧ Below wx.heap.size wx w') := fun wx hx => (implPartsOf n lo hi [x0, x1, x2, x3] t wx (h.below hx).up hbk).mono fun e w' hh => by
    obtain ⟨v, l, h1, h2, h3⟩ := hh
    obtain ⟨ao, cap, rfl⟩ := slice_ownT h2
    exact ⟨ao, cap, l, h1, h2, h3⟩
  clear h hbk
  generalize Ty.nodes n t = N at *
  generalize Ty.hasAny n t = r at *
  have hB1 : Below w.heap.size w (w.alloc (.cells #[x0, x1, x2, x3] 30)) := (Below.refl _ _).alloc (Nat.le_refl _) _
  go_enter Try.func8, Try.ntmps8
  go_wp2_with fail
  refine (HC.out _ hB1).mono ?_
  rintro e w2 ⟨ao, cap, l, rfl, ho, hperm, hfit, hb2⟩
  have hb02 : Below w.heap.size w w2 := hB1.trans (hb2.mono (by simp))
  have HP : Hid (r = l.any fun p => decide (p.t.kind = 3)) := by
    show r = _
    rw [HY.out, any_of hperm, List.any_map]
    rfl
  have hll : l.length ≤ 1048577 := by have := hperm.length_eq; rw [List.length_map] at this; omega
  have HO : Hid (type_of% ho) := ho
  have HF : Hid (type_of% hfit) := hfit
  clear HC HY hperm ho hfit hB1 hb2
  go_wp2_with fail
  go_loopw [8] (fun i wr => ∃ k : Nat, k ≤ l.length ∧ i = .int .i64 k ∧ (∀ j (hj : j < l.length), j < k → l[j].t.kind ≠ 3) ∧ Below w2.heap.size w2 wr) (fun i _ => l.length - (intOf i).toNat)
  case atStart => exact ⟨0, Nat.zero_le _, rfl, fun j _ h => absurd h (by omega), Below.refl _ _⟩
  case round =>
    obtain ⟨k, hk, rfl, hno, hbe⟩ := hrel
    by_cases hlt : k < l.length
    · obtain ⟨g, capg, e, hcell⟩ := row_cells HO.out HF.out k hlt
      simp only [Value.slice.injEq, true_and] at e
      obtain ⟨rfl, rfl⟩ := e
      obtain ⟨an, ln, cn, ak, lk, ck, hcs⟩ := (HF.out _ (List.getElem_mem hlt)).shape
      rw [hcs] at hcell
      have hgl : g < w2.heap.size := World.block_lt_of_cell? w2 ⟨g, k * 4 + 0, none⟩ (hcell 0 _ rfl)
      have c0 := (hbe.cell (p := ⟨g, k * 4 + 0, none⟩) hgl).trans (hcell 0 _ rfl)
      have c1 := (hbe.cell (p := ⟨g, k * 4 + 1, none⟩) hgl).trans (hcell 1 _ rfl)
      have c2 := (hbe.cell (p := ⟨g, k * 4 + 2, none⟩) hgl).trans (hcell 2 _ rfl)
      have c3 := (hbe.cell (p := ⟨g, k * 4 + 3, none⟩) hgl).trans (hcell 3 _ rfl)
      rw [Nat.add_zero] at c0
      have hbw : Below w.heap.size w wr := hb02.trans (hbe.mono hb02.size)
      have hz2 : w2.heap.size ≤ wr.heap.size := hbe.size
      have hz0 : w.heap.size ≤ wr.heap.size := hbw.size
      by_cases h3 : l[k].t.kind = 3
      · have HR : Hid (r = true) := by
          show r = true
          rw [HP.out, List.any_eq_true]
          exact ⟨_, List.getElem_mem hlt, by simp [h3]⟩
        rw [h3] at c0
        generalize l[k].t.name = nm at *
        clear hcell hcs h3 HF HO HP hno
        go_wp2_with fail
        go_ret
        exact ⟨by rw [HR.out]; rfl, hbw.alloc hz0 _⟩
      · have HN : Hid (∀ j (hj : j < l.length), j < k + 1 → l[j].t.kind ≠ 3) := fun j hj hjk => by
          by_cases c : j = k
          · subst c; exact h3
          · exact hno j hj (by omega)
        generalize l[k].t.name = nm at *
        generalize l[k].t.kind = kd at *
        clear hcell hcs HF HO HP hno
        go_wp2_with fail
        go_roundw
        case rel => exact ⟨k + 1, by omega, by go_num, HN.out, hbe.alloc hz2 _⟩
        case measure => simp [intOf]; omega
    · have HR : Hid (r = false) := by
        show r = false
        rw [HP.out, List.any_eq_false]
        intro p hp
        obtain ⟨j, hj, rfl⟩ := List.getElem_of_mem hp
        simpa using hno j hj (by omega)
      clear HF HO HP hno
      go_wp2_with fail
      go_ret
      exact ⟨by rw [HR.out]; rfl, hb02.trans (hbe.mono hb02.size)⟩

end Go.Proofs.Ytfmfihgmpefknac

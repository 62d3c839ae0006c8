/-
 spec.l03Right and spec.TypeOk at every type.
-/
import Derived.Test.YtbojmbeopnlmiaaGreatDoorRightT
namespace Go.Proofs.YtbojmbeopnlmiaaGreatDoor
open Go.RowKit
theorem textsBulk_mem (l : List ByteArray) (x : ByteArray) (h : x ∈ l) : x.size ≤ Ty.textsBulk l := by
 induction l with
 | nil => simp at h
 | cons a r ih =>
  rw [Ty.textsBulk]
  rcases List.mem_cons.1 h with e | m
  ·rw [e]; omega
  ·have := ih m; omega
theorem specRight (n : Nat) : RightAt n := by
 induction n with
 | zero => intro cs t d w h; exact h.elim
 | succ n ih =>
  intro cs t d w h hb hd1 hd2
  obtain ⟨vn, vk, rfl, _, _, ⟨hT, _, _⟩, _, hrow⟩ := h
  cases t with
  | mk kd nm nms ks =>
   have hbe : Ty.bulk (n + 1) (.mk kd nm nms ks) = nm.size + (nms.length + Ty.textsBulk nms) + rowBulk n ks := rfl
   have hT' : Texts w vn nms := hT
   obtain ⟨an, cn, rfl, hnc⟩ : ∃ a cap, vn = .slice a nms.length cap ∧ ∀ j (h : j < nms.length), ∃ b off, a = some ⟨b, off, none⟩ ∧ w.cell? ⟨b, off + j, none⟩ = some (.string nms[j]) := by
    rcases hT' with ⟨h, a, cap, e⟩ | ⟨b, off, cap, e, hc⟩
    ·subst h; exact ⟨a, cap, e, fun j hj => absurd hj (by simp)⟩
    ·exact ⟨_, cap, e, fun j hj => ⟨b, off, rfl, hc j hj⟩⟩
   have hbk : rowBulk n ks ≤ 1048576 := by omega
   have hnm : nm.size ≤ 1048576 := by omega
   by_cases c0 : kd = 0
   ·subst c0; exact specRight0 n ih nm nms ks an _ cn vk d w rfl hnm hrow hbk hd1 hd2
   by_cases c1 : kd = 1
   ·subst c1; exact specRight1 n ih nm nms ks an _ cn vk d w rfl hnm hrow hbk hd1 hd2
   by_cases c2 : kd = 2
   ·subst c2; exact specRight2 n ih nm nms ks an _ cn vk d w rfl hnm hrow hbk hd1 hd2
   by_cases c3 : kd = 3
   ·subst c3; exact specRight3 n ih nm nms ks an _ cn vk d w rfl hnm hrow hbk hd1 hd2
   by_cases c4 : kd = 4
   ·subst c4; exact specRight4 n ih nm nms ks an _ cn vk d w rfl hnm hrow hbk hd1 hd2
   by_cases c5 : kd = 5
   ·subst c5
    exact specRight5 n ih nm nms ks an _ cn vk d w rfl hnm hrow hbk hd1 hd2 hnc (fun x hx => by have := textsBulk_mem nms x hx; omega) (by omega)
   by_cases c6 : kd = 6
   ·subst c6; exact specRight6 n ih nm nms ks an _ cn vk d w rfl hnm hrow hbk hd1 hd2
   by_cases c7 : kd = 7
   ·subst c7; exact specRight7 n ih nm nms ks an _ cn vk d w rfl hnm hrow hbk hd1 hd2
   exact specRightE n ih kd nm nms ks an _ cn vk d w rfl hnm hrow hbk hd1 hd2 (by omega)
set_option maxHeartbeats 800000 in
set_option maxRecDepth 100000 in
open Classical in
theorem specTypeOk (n : Nat) (cs : List Value) (t : Ty) (w : World) (h : TyAt w n cs t) (hb : Ty.bulk n t ≤ 1048576) :
  Calls Tryz.prog 20 #[.agg cs.toArray] w fun e w' => e = .returned (.bool (decide (Right n t 12))) ∧ Below w.heap.size w w' := by
 have hB1 : Below w.heap.size w (w.alloc (.cells cs.toArray 30)) := (Below.refl _ _).alloc (Nat.le_refl _) _
 have HC := specRight n cs t 12 _ (h.below hB1) hb (by omega) (by omega)
 obtain ⟨x0, x1, x2, x3, rfl⟩ : ∃ x0 x1 x2 x3, cs = [x0, x1, x2, x3] := by
  have hl := h.len
  match cs, hl with
  | [x0, x1, x2, x3], _ => exact ⟨x0, x1, x2, x3, rfl⟩
 have HC2 : Hid (type_of% HC) := HC
 clear HC h
 generalize decide (Right n t 12) = R at *
 go_enter Tryz.func20, Tryz.ntmps20
 go_wp2_with fail
 refine HC2.out.mono ?_
 rintro e w1 ⟨rfl, hb1⟩
 go_wp2_with fail
 go_ret
 exact ⟨rfl, hB1.trans (hb1.mono (by simp))⟩
end Go.Proofs.YtbojmbeopnlmiaaGreatDoor

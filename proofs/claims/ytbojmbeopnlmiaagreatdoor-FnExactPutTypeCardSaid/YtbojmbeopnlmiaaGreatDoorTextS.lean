/-
  The walks of spec.l03Text and spec.l03Round: a type's text, by recursion on its depth.
-/
import Derived.Test.YtbojmbeopnlmiaaGreatDoorTyT
namespace Go.Proofs.YtbojmbeopnlmiaaGreatDoor
open Go.RowKit

/-- a record has as many names as kids, a function has a kid: to a depth -/
def Ty.fine : Nat → Ty → Prop
  | 0, _ => True
  | n + 1, t => (t.kind = 5 → t.names.length = t.kids.length) ∧ (t.kind = 6 → t.kids ≠ []) ∧ ∀ k ∈ t.kids, Ty.fine n k

/-- what l03Text does at that depth -/
def TextAt (n : Nat) : Prop := ∀ (cs : List Value) (t : Ty) (w : World), TyAt w n cs t → Ty.fine n t → Ty.bulk n t ≤ 1048576 →
    Calls Tryz.prog 64 #[.agg cs.toArray] w fun e w' => e = .returned (.string (Ty.text n t)) ∧ Below w.heap.size w w'

theorem cellT {w : World} {cs : Array Value} {t : TypeId} {b : Nat} (i : Nat) (h : b = w.heap.size) : (w.alloc (.cells cs t)).cell? ⟨b, i, none⟩ = cs[i]? := by
  subst h
  simp

set_option maxHeartbeats 800000 in
set_option maxRecDepth 100000 in
theorem specRound (n : Nat) (ih : TextAt n) (cs : List Value) (t : Ty) (c : Int) (w : World) (h : TyAt w n cs t) (hf : Ty.fine n t) (hb : Ty.bulk n t ≤ 1048576) :
    Calls Tryz.prog 93 #[.agg cs.toArray, .int .i64 c] w fun e w' => e = .returned (.string (roundP c t (Ty.text n t))) ∧ Below w.heap.size w w' := by
  have hs := text_size n t
  have hB1 : Below w.heap.size w (w.alloc (.cells cs.toArray 30)) := (Below.refl _ _).alloc (Nat.le_refl _) _
  have HC := ih cs t _ (h.below hB1) hf hb
  obtain ⟨x2, x3, rfl⟩ : ∃ x2 x3, cs = [.int .i64 t.kind, .string t.name, x2, x3] := by
    cases n with
    | zero => exact h.elim
    | succ n => obtain ⟨vn, vk, e, _⟩ := h; exact ⟨vn, vk, e⟩
  have HC2 : Hid (type_of% HC) := HC
  by_cases hk : t.kind = c
  · have HR : Hid (roundP c t (Ty.text n t) = ⟨#[40]⟩ ++ Ty.text n t ++ ⟨#[41]⟩) := if_pos hk
    have hkb : (t.kind == c) = true := beq_iff_eq.2 hk
    clear HC h hf hk
    generalize Ty.text n t = T at *
    go_enter Tryz.func93, Tryz.ntmps93
    go_wp2_with fail
    refine HC2.out.mono ?_
    rintro e w1 ⟨rfl, hb1⟩
    go_wp2_with fail
    go_ret
    exact ⟨by rw [HR.out]; rfl, hB1.trans (hb1.mono (by simp))⟩
  · have HR : Hid (roundP c t (Ty.text n t) = Ty.text n t) := if_neg hk
    have hkb : (t.kind == c) = false := beq_eq_false_iff_ne.2 hk
    clear HC h hf hk
    generalize Ty.text n t = T at *
    go_enter Tryz.func93, Tryz.ntmps93
    go_wp2_with fail
    refine HC2.out.mono ?_
    rintro e w1 ⟨rfl, hb1⟩
    go_wp2_with fail
    go_ret
    exact ⟨by rw [HR.out]; rfl, hB1.trans (hb1.mono (by simp))⟩

set_option maxHeartbeats 1600000 in
set_option maxRecDepth 100000 in
theorem specTextPlain (n : Nat) (kd : Int) (nm : ByteArray) (nms : List ByteArray) (ks : List Ty) (vn vk : Value) (w : World) (hk : kd = 0 ∨ kd = 1 ∨ kd = 2 ∨ kd = 3 ∨ kd = 4) :
    Calls Tryz.prog 64 #[.agg #[.int .i64 kd, .string nm, vn, vk]] w fun e w' => e = .returned (.string (Ty.text (n + 1) (.mk kd nm nms ks))) ∧ Below w.heap.size w w' := by
  have hB1 : Below w.heap.size w (w.alloc (.cells #[.int .i64 kd, .string nm, vn, vk] 30)) := (Below.refl _ _).alloc (Nat.le_refl _) _
  rcases hk with rfl | rfl | rfl | rfl | rfl
  · go_enter Tryz.func64, Tryz.ntmps64
    go_wp2
    go_ret
    exact ⟨rfl, hB1.alloc (by simp) _⟩
  · go_enter Tryz.func64, Tryz.ntmps64
    go_wp2
    go_ret
    exact ⟨rfl, hB1.alloc (by simp) _⟩
  · go_enter Tryz.func64, Tryz.ntmps64
    go_wp2
    go_ret
    exact ⟨rfl, hB1.alloc (by simp) _⟩
  · go_enter Tryz.func64, Tryz.ntmps64
    go_wp2
    go_ret
    exact ⟨rfl, hB1.alloc (by simp) _⟩
  · go_enter Tryz.func64, Tryz.ntmps64
    go_wp2
    go_ret
    exact ⟨rfl, hB1⟩

end Go.Proofs.YtbojmbeopnlmiaaGreatDoor

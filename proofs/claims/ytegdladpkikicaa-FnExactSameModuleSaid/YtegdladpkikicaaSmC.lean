/-
  The walks of the functions that sameTypes and sameExps hand on.
-/
import Derived.Test.YtegdladpkikicaaSmE
namespace Go.Proofs.Ytegdladpkikicaa
open Go.RowKit

set_option maxHeartbeats 1600000 in
set_option maxRecDepth 100000 in
open Classical in
theorem implHsTy (n : Nat) (ca cb : List Value) (a b : Ty) (w : World) (hA : TyAt w n ca a) (hB : TyAt w n cb b) (hl : a.names.length ≤ 1048576) :
    Calls Try.prog 32 #[.agg ca.toArray, .agg cb.toArray] w fun e w' => e = .returned (.bool (decide (TyHs a b))) ∧ Below w.heap.size w w' := by
  cases n with
  | zero => exact hA.elim
  | succ n =>
    obtain ⟨an, ak, rfl, _, _, ⟨hTa, _, _⟩, _, _⟩ := hA
    obtain ⟨bn, bk, rfl, _, _, ⟨hTb, _, _⟩, _, _⟩ := hB
    have hB1 : Below w.heap.size w ((w.alloc (.cells #[.int .i64 a.kind, .string a.name, an, ak] 38)).alloc (.cells #[.int .i64 b.kind, .string b.name, bn, bk] 38)) := ((Below.refl _ _).alloc (Nat.le_refl _) _).alloc (by simp) _
    have HT0 := implEqualT an bn a.names b.names _ (hTa.below hB1) (hTb.below hB1) hl
    have HT1 : Hid (type_of% HT0) := HT0
    have HN : Hid (¬ TyHs a b → decide (TyHs a b) = false) := fun h => decide_eq_false h
    clear hTa hTb HT0 hl
    by_cases c0 : a.kind = b.kind
    rotate_left
    · have x0 : (a.kind == b.kind) = false := by simpa using c0
      have HR : Hid (type_of% (HN.out fun h => c0 h.1)) := HN.out fun h => c0 h.1
      clear HN HT1 c0
      go_enter Try.func32, Try.ntmps32
      go_wp2_with fail
      go_ret
      exact ⟨by rw [HR.out]; rfl, hB1⟩
    have C0 : Hid (type_of% c0) := c0
    have x0 : (a.kind == b.kind) = true := by simpa using c0
    clear c0
    by_cases c1 : a.name = b.name
    rotate_left
    · have x1 : (a.name.toList == b.name.toList) = false := text_otherS c1
      have HR : Hid (type_of% (HN.out fun h => c1 h.2.1)) := HN.out fun h => c1 h.2.1
      clear HN HT1 c1
      go_enter Try.func32, Try.ntmps32
      go_wp2_with fail
      go_ret
      exact ⟨by rw [HR.out]; rfl, hB1⟩
    have C1 : Hid (type_of% c1) := c1
    have x1 : (a.name.toList == b.name.toList) = true := by rw [c1]; exact beq_self_eq_true _
    clear c1
    have HR : Hid (decide (TyHs a b) = decide (a.names = b.names)) := decide_eq_decide.2 ⟨fun h => h.2.2, fun h => ⟨C0.out, C1.out, h⟩⟩
    clear HN
    go_enter Try.func32, Try.ntmps32
    go_wp2_with fail
    refine HT1.out.mono ?_
    rintro e w1 ⟨rfl, hb1⟩
    go_wp2_with fail
    go_ret
    exact ⟨by rw [HR.out]; rfl, hB1.trans (hb1.mono (by simp; omega))⟩
set_option maxHeartbeats 1600000 in
set_option maxRecDepth 100000 in
open Classical in
theorem implHsXp (n : Nat) (ca cb : List Value) (a b : Xp) (w : World) (hA : XpAt w n ca a) (hB : XpAt w n cb b) (hl : a.names.length ≤ 1048576) :
    Calls Try.prog 35 #[.agg ca.toArray, .agg cb.toArray] w fun e w' => e = .returned (.bool (decide (XpHs a b))) ∧ Below w.heap.size w w' := by
  cases n with
  | zero => exact hA.elim
  | succ n =>
    obtain ⟨an, ak, rfl, _, ⟨hTa, _, _⟩, _, _⟩ := hA
    obtain ⟨bn, bk, rfl, _, ⟨hTb, _, _⟩, _, _⟩ := hB
    have hB1 : Below w.heap.size w ((w.alloc (.cells #[.int .i64 a.kind, .string a.text, .int .i64 a.n, .int .i64 a.line, an, ak] 41)).alloc (.cells #[.int .i64 b.kind, .string b.text, .int .i64 b.n, .int .i64 b.line, bn, bk] 41)) := ((Below.refl _ _).alloc (Nat.le_refl _) _).alloc (by simp) _
    have HT0 := implEqualT an bn a.names b.names _ (hTa.below hB1) (hTb.below hB1) hl
    have HT1 : Hid (type_of% HT0) := HT0
    have HN : Hid (¬ XpHs a b → decide (XpHs a b) = false) := fun h => decide_eq_false h
    clear hTa hTb HT0 hl
    by_cases c0 : a.kind = b.kind
    rotate_left
    · have x0 : (a.kind == b.kind) = false := by simpa using c0
      have HR : Hid (type_of% (HN.out fun h => c0 h.1)) := HN.out fun h => c0 h.1
      clear HN HT1 c0
      go_enter Try.func35, Try.ntmps35
      go_wp2_with fail
      go_ret
      exact ⟨by rw [HR.out]; rfl, hB1⟩
    have C0 : Hid (type_of% c0) := c0
    have x0 : (a.kind == b.kind) = true := by simpa using c0
    clear c0
    by_cases c1 : a.text = b.text
    rotate_left
    · have x1 : (a.text.toList == b.text.toList) = false := text_otherS c1
      have HR : Hid (type_of% (HN.out fun h => c1 h.2.1)) := HN.out fun h => c1 h.2.1
      clear HN HT1 c1
      go_enter Try.func35, Try.ntmps35
      go_wp2_with fail
      go_ret
      exact ⟨by rw [HR.out]; rfl, hB1⟩
    have C1 : Hid (type_of% c1) := c1
    have x1 : (a.text.toList == b.text.toList) = true := by rw [c1]; exact beq_self_eq_true _
    clear c1
    by_cases c2 : a.n = b.n
    rotate_left
    · have x2 : (a.n == b.n) = false := by simpa using c2
      have HR : Hid (type_of% (HN.out fun h => c2 h.2.2.1)) := HN.out fun h => c2 h.2.2.1
      clear HN HT1 c2
      go_enter Try.func35, Try.ntmps35
      go_wp2_with fail
      go_ret
      exact ⟨by rw [HR.out]; rfl, hB1⟩
    have C2 : Hid (type_of% c2) := c2
    have x2 : (a.n == b.n) = true := by simpa using c2
    clear c2
    have HR : Hid (decide (XpHs a b) = decide (a.names = b.names)) := decide_eq_decide.2 ⟨fun h => h.2.2.2, fun h => ⟨C0.out, C1.out, C2.out, h⟩⟩
    clear HN
    go_enter Try.func35, Try.ntmps35
    go_wp2_with fail
    refine HT1.out.mono ?_
    rintro e w1 ⟨rfl, hb1⟩
    go_wp2_with fail
    go_ret
    exact ⟨by rw [HR.out]; rfl, hB1.trans (hb1.mono (by simp; omega))⟩

set_option maxRecDepth 100000 in
theorem implKidsTy (x0 x1 x2 x3 : Value) (w : World) : Calls Try.prog 34 #[.agg #[x0, x1, x2, x3]] w fun e w' => e = .returned x3 ∧ Below w.heap.size w w' := by
  go_enter Try.func34, Try.ntmps34
  go_wp2_with fail
  go_ret
  exact ⟨rfl, (Below.refl _ _).alloc (Nat.le_refl _) _⟩
set_option maxRecDepth 100000 in
theorem implKidsXp (x0 x1 x2 x3 x4 x5 : Value) (w : World) : Calls Try.prog 37 #[.agg #[x0, x1, x2, x3, x4, x5]] w fun e w' => e = .returned x5 ∧ Below w.heap.size w w' := by
  go_enter Try.func37, Try.ntmps37
  go_wp2_with fail
  go_ret
  exact ⟨rfl, (Below.refl _ _).alloc (Nat.le_refl _) _⟩

end Go.Proofs.Ytegdladpkikicaa

/-
  The walks of slices.Clone at texts, and of impl.copyTexts.
-/
import Derived.Test.YtfmfihgmpefknacStepA
import Derived.Test.YtfmfihgmpefknacCloneLib
import Derived.Test.YtfmfihgmpefknacLayD
namespace Go.Proofs.Ytfmfihgmpefknac
open Go.RowKit

set_option maxHeartbeats 800000 in
set_option maxRecDepth 100000 in
theorem slClone (v : Value) (ts : List ByteArray) (w : World) (hT : Texts w v ts) (hl : ts.length ≤ 1048577) :
    Calls Try.prog 28 #[v] w fun e w' => ∃ (a : Option Addr) (c : Nat), e = .returned (.slice a ts.length c) ∧ w'.ownsRow w.heap.size 9 1 (.slice a ts.length c) ts.length (strV ts) ∧ Below w.heap.size w w' := by
  obtain ⟨i0, hi0, hz0, hz1, hz2⟩ := info_parts Try.infoString
  obtain ⟨a, cap, rfl, hc⟩ := textsOpen hT
  clear hT
  cases a with
  | none =>
    have h0 : ts.length = 0 := by
      cases hh : ts.length with
      | zero => rfl
      | succ m => obtain ⟨b, off, e, _⟩ := hc 0 (by omega); cases e
    have ht : ts = [] := List.length_eq_zero_iff.1 h0
    subst ht
    clear hc hl h0
    have hq : ∀ w : World, Sem.run Try.prog (binOp BinOp.eql 22 (.slice none 0 cap) (.slice none 0 0)) w = .ok (.bool true) w := fun w => by kernel_rfl
    go_enter Try.func28, Try.ntmps28
    go_wp2
    go_ret
    exact ⟨none, 0, rfl, World.ownsRow_nil _ _ _ _, Below.refl _ _⟩
  | some ad =>
    have HC : Hid (∀ X : World, Below w.heap.size w X → ∀ j u, (strV ts)[j]? = some u → X.cell? (ad.add j) = some u) := fun X hX j u hu => by
      have hj : j < ts.length := by
        have := (List.getElem?_eq_some_iff.1 hu).1
        rwa [strV_length] at this
      obtain ⟨b, off, e, h⟩ := hc j hj
      simp only [Option.some.injEq] at e
      subst e
      rw [strV_get ts j hj] at hu
      rw [← hu, ← h, Addr.add_lit]
      exact hX.cell (p := ⟨b, off + j, none⟩) (World.block_lt_of_cell? w ⟨b, off + j, none⟩ h)
    have hB1 : Below w.heap.size w (w.alloc (.cells #[] 9)) := (Below.refl _ _).alloc (Nat.le_refl _) _
    have hE : (w.alloc (.cells #[] 9)).ownsRow w.heap.size 9 1 (.slice (some ⟨w.heap.size, 0, none⟩) 0 0) 0 [] := own_empty (MapKept.heap_alloc w _).1 (Nat.le_refl _)
    clear hc
    have hq : ∀ w : World, Sem.run Try.prog (binOp BinOp.eql 22 (.slice (some ad) ts.length cap) (.slice none 0 0)) w = .ok (.bool false) w := fun w => by kernel_rfl
    go_enter Try.func28, Try.ntmps28
    go_wp2_with (at_builtin; refine wpList_append_own _ rfl _ _ 22 rfl w.heap.size 9 i0 (.string ⟨#[]⟩) 1 16 Try.underlying22 hi0 hz0 hz1 hz2 rfl (by decide) _ _ _ rfl hE ad ts.length cap (strV ts) rfl (by rw [strV_length]; omega) (HC.out _ hB1) (strV_one ts) ?c3 ?c4 ?c5 ?_)
    case c3 => unfold maxLen; omega
    case c4 => omega
    case c5 => simp
    intro v' w3 hown' hgrow _
    have R1 : w3.ownsRow w.heap.size 9 1 v' ts.length (strV ts) := by simpa using hown'
    have R2 : Below w.heap.size w w3 := hB1.grown hgrow (by simp) (fun j hj => by simp [Value.ownBlock] at hj; omega)
    obtain ⟨a', c', hv⟩ := slice_ownM R1
    subst hv
    have HO : Hid (type_of% R1) := R1
    clear hown' hgrow R1 HC hE hB1
    go_wp2_with fail
    go_ret
    exact ⟨a', c', rfl, HO.out, R2⟩

theorem strV_set (ts : List ByteArray) (k : Nat) (h : k < ts.length) : (strV ts).set k (.string ts[k]) = strV ts := by
  apply List.ext_getElem?
  intro i
  by_cases c : k = i
  · subst c
    rw [List.getElem?_set_self (by rw [strV_length]; exact h), strV_get ts k h]
  · rw [List.getElem?_set_ne c]

end Go.Proofs.Ytfmfihgmpefknac

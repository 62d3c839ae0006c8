/-
  The walk of impl.IsWord: whether a text is a word of the language.
-/
import Derived.Test.YtihpdngpedgjhaaDoorRows
import Derived.Test.YtihpdngpedgjhaaDoorLexP
import Derived.WalkKit
import Derived.WalkSpells
import Derived.WalkLawsBesides
namespace Go.Proofs.YtihpdngpedgjhaaDoor
open Go.RowKit

theorem lit_ne {s : ByteArray} {l : List UInt8} (h : ¬ s = ⟨l.toArray⟩) : (s.toList == l) = false := by
  rw [ByteArray.toList_eq]
  simp only [beq_eq_false_iff_ne, ne_eq]
  intro e
  exact h (by cases s; simp at e; simp [← e])
theorem lit_eq {s : ByteArray} {l : List UInt8} (h : s = ⟨l.toArray⟩) : (s.toList == l) = true := by
  rw [ByteArray.toList_eq, h]
  simp

set_option maxHeartbeats 800000 in
theorem implIsWord (s : ByteArray) (w : World) :
    Calls Tryd.prog 16 #[.string s] w fun e w' => e = .returned (.bool (Lx.isWordP s)) ∧ w = w' := by
  by_cases h : s ∈ Lx.wordsL
  · rw [(Lx.isWordP_iff s).2 h]
    unfold Lx.wordsL at h
    simp only [List.mem_cons, List.not_mem_nil, or_false] at h
    rcases h with rfl | rfl | rfl | rfl | rfl | rfl | rfl | rfl | rfl | rfl | rfl | rfl | rfl | rfl
    all_goals
      go_enter Tryd.func16, Tryd.ntmps16
      go_wp2
      go_ret
      exact ⟨rfl, rfl⟩
  · have hf : Lx.isWordP s = false := by
      cases hh : Lx.isWordP s
      · rfl
      · exact absurd ((Lx.isWordP_iff s).1 hh) h
    rw [hf]
    unfold Lx.wordsL at h
    simp only [List.mem_cons, List.not_mem_nil, or_false, not_or] at h
    obtain ⟨n1, n2, n3, n4, n5, n6, n7, n8, n9, n10, n11, n12, n13, n14⟩ := h
    have h1 := lit_ne n1
    have h2 := lit_ne n2
    have h3 := lit_ne n3
    have h4 := lit_ne n4
    have h5 := lit_ne n5
    have h6 := lit_ne n6
    have h7 := lit_ne n7
    have h8 := lit_ne n8
    have h9 := lit_ne n9
    have h10 := lit_ne n10
    have h11 := lit_ne n11
    have h12 := lit_ne n12
    have h13 := lit_ne n13
    have h14 := lit_ne n14
    clear n1 n2 n3 n4 n5 n6 n7 n8 n9 n10 n11 n12 n13 n14
    go_enter Tryd.func16, Tryd.ntmps16
    go_wp2
    go_ret
    exact ⟨rfl, rfl⟩

end Go.Proofs.YtihpdngpedgjhaaDoor

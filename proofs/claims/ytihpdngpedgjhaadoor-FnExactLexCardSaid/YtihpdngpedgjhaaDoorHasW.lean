/-
  The walks of spec.l02Has and spec.IsWord: whether a text is one of a list.
-/
import Derived.Test.YtihpdngpedgjhaaDoorWordW
import Derived.Test.YtihpdngpedgjhaaDoorTextsD
namespace Go.Proofs.YtihpdngpedgjhaaDoor
open Go.RowKit

def hasP (ts : List ByteArray) (s : ByteArray) : Bool := ts.any fun x => decide (x.data = s.data)
theorem hasP_at {ts : List ByteArray} {s : ByteArray} {k : Nat} (h : k < ts.length) (e : ts[k] = s) : hasP ts s = true := by
  unfold hasP
  rw [List.any_eq_true]
  exact ⟨ts[k], List.getElem_mem h, by simp [e]⟩
theorem hasP_none {ts : List ByteArray} {s : ByteArray} (h : ∀ k (hk : k < ts.length), ¬ ts[k] = s) : hasP ts s = false := by
  unfold hasP
  rw [List.any_eq_false]
  intro x hx
  obtain ⟨k, hk, rfl⟩ := List.getElem_of_mem hx
  have := h k hk
  intro e
  apply this
  have e2 : ts[k].data = s.data := by simpa using e
  generalize ts[k] = a at *
  cases a; cases s; simp at e2; rw [e2]
theorem list_differ {a b : ByteArray} (h : ¬ a = b) : (a.toList == b.toList) = false := by
  rw [ByteArray.toList_eq, ByteArray.toList_eq]
  simp only [beq_eq_false_iff_ne, ne_eq]
  intro e
  have h2 : a.data = b.data := Array.toList_inj.1 e
  exact h (by cases a; cases b; simp at h2; rw [h2])

set_option maxHeartbeats 400000 in
theorem specHas (v : Value) (ts : List ByteArray) (s : ByteArray) (w : World) (hT : Texts w v ts) (hl : ts.length ≤ 1048576) :
    Calls Tryd.prog 26 #[v, .string s] w fun e w' => e = .returned (.bool (hasP ts s)) ∧ w = w' := by
  obtain ⟨a, cap, rfl, hc⟩ : ∃ a cap, v = .slice a ts.length cap ∧ ∀ j (h : j < ts.length), ∃ b off, a = some ⟨b, off, none⟩ ∧ w.cell? ⟨b, off + j, none⟩ = some (.string ts[j]) := by
    rcases hT with ⟨h, a, cap, e⟩ | ⟨b, off, cap, e, hc⟩
    · subst h; exact ⟨a, cap, e, fun j hj => absurd hj (by simp)⟩
    · exact ⟨_, cap, e, fun j hj => ⟨b, off, rfl, hc j hj⟩⟩
  have HC : Hid (∀ j (h : j < ts.length), ∃ b off, a = some ⟨b, off, none⟩ ∧ w.cell? ⟨b, off + j, none⟩ = some (.string ts[j])) := hc
  clear hT hc
  go_enter Tryd.func26, Tryd.ntmps26
  go_wp2
  go_loop [5] (fun i => ∃ k : Nat, k ≤ ts.length ∧ i = .int .i64 k ∧ ∀ j (hj : j < ts.length), j < k → ¬ ts[j] = s) (fun i => ts.length - (intOf i).toNat)
  case atStart => exact ⟨0, Nat.zero_le _, rfl, fun j _ h => absurd h (by omega)⟩
  case round =>
    obtain ⟨k, hk, rfl, hno⟩ := hrel
    have HN : Hid (∀ j (hj : j < ts.length), j < k → ¬ ts[j] = s) := hno
    clear hno
    by_cases hlt : k < ts.length
    · obtain ⟨b, off, rfl, hcell⟩ := HC.out k hlt
      by_cases he : ts[k] = s
      · have HY : Hid (hasP ts s = true) := hasP_at hlt he
        rw [he] at hcell
        clear he HC
        go_wp2
        go_ret
        exact ⟨by rw [HY.out]; rfl, rfl⟩
      · have hne := list_differ he
        have HN2 : Hid (∀ j (hj : j < ts.length), j < k + 1 → ¬ ts[j] = s) := fun j hj h => by
          by_cases e : j = k
          · subst e; exact he
          · exact HN.out j hj (by omega)
        clear he
        generalize ts[k] = p at *
        go_wp2
        go_round
        case rel => exact ⟨k + 1, by omega, by go_num, HN2.out⟩
        case measure => simp [intOf]; omega
    · have HY : Hid (hasP ts s = false) := hasP_none fun j hj => HN.out j hj (by omega)
      go_wp2
      go_ret
      exact ⟨by rw [HY.out]; rfl, rfl⟩

theorem hasP_words (s : ByteArray) : hasP Lx.wordsL s = Lx.isWordP s := rfl

set_option maxHeartbeats 400000 in
theorem specIsWord (s : ByteArray) (w : World) :
    Calls Tryd.prog 15 #[.string s] w fun e w' => e = .returned (.bool (Lx.isWordP s)) ∧ Below w.heap.size w w' := by
  have HH : Hid (Calls Tryd.prog 26 #[.slice (some ⟨w.heap.size, 0, none⟩) 14 14, .string s] (w.alloc (.cells (strV Lx.wordsL).toArray 9)) fun e w' => e = .returned (.bool (Lx.isWordP s)) ∧ (w.alloc (.cells (strV Lx.wordsL).toArray 9)) = w') := by
    have hT : Texts (w.alloc (.cells (strV Lx.wordsL).toArray 9)) (.slice (some ⟨w.heap.size, 0, none⟩) 14 14) Lx.wordsL :=
      Texts.own (B := w.heap.size) (World.ownsRow_lit (base := w.heap.size) (e := 9) (size := 1) w (strV Lx.wordsL).toArray 14 (Nat.le_refl _) (by decide) rfl)
    exact specHas _ _ _ _ hT (by decide)
  simp only [strV, Lx.wordsL, List.map_cons, List.map_nil] at HH
  generalize Lx.isWordP s = r at *
  go_enter Tryd.func15, Tryd.ntmps15
  go_wp2_with (go_at_call 26; refine HH.out.mono ?_; rintro e w1 ⟨rfl, rfl⟩)
  go_ret
  exact ⟨rfl, (Below.refl _ _).alloc (Nat.le_refl _) _⟩

end Go.Proofs.YtihpdngpedgjhaaDoor

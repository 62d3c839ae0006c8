/-
  The walk of the law's own helper eqStringS, at lists that are one longer than elsewhere.
-/
import Derived.Test.YtfmfihgmpefknacTextsT
namespace Go.Proofs.Ytfmfihgmpefknac
open Go.RowKit

set_option maxHeartbeats 400000 in
theorem lawsEqL (va vb : Value) (ts : List ByteArray) (w : World) (hA : Texts w va ts) (hB : Texts w vb ts) (hl : ts.length ≤ 1048577) :
    Calls Try.prog 12 #[va, vb] w fun e w' => e = .returned (.bool true) ∧ Below w.heap.size w w' := by
  obtain ⟨a, cap, rfl, hc⟩ : ∃ a cap, va = .slice a ts.length cap ∧ ∀ j (h : j < ts.length), ∃ b off, a = some ⟨b, off, none⟩ ∧ w.cell? ⟨b, off + j, none⟩ = some (.string ts[j]) := by
    rcases hA with ⟨h, a, cap, e⟩ | ⟨b, off, cap, e, hc⟩
    · subst h; exact ⟨a, cap, e, fun j hj => absurd hj (by simp)⟩
    · exact ⟨_, cap, e, fun j hj => ⟨b, off, rfl, hc j hj⟩⟩
  obtain ⟨a', cap', rfl, hc'⟩ : ∃ a cap, vb = .slice a ts.length cap ∧ ∀ j (h : j < ts.length), ∃ b off, a = some ⟨b, off, none⟩ ∧ w.cell? ⟨b, off + j, none⟩ = some (.string ts[j]) := by
    rcases hB with ⟨h, a, cap, e⟩ | ⟨b, off, cap, e, hc⟩
    · subst h; exact ⟨a, cap, e, fun j hj => absurd hj (by simp)⟩
    · exact ⟨_, cap, e, fun j hj => ⟨b, off, rfl, hc j hj⟩⟩
  have HC : Hid (∀ j (h : j < ts.length), ∃ b off, a = some ⟨b, off, none⟩ ∧ w.cell? ⟨b, off + j, none⟩ = some (.string ts[j])) := hc
  have HC' : Hid (∀ j (h : j < ts.length), ∃ b off, a' = some ⟨b, off, none⟩ ∧ w.cell? ⟨b, off + j, none⟩ = some (.string ts[j])) := hc'
  clear hA hB hc hc'
  go_enter Try.func12, Try.ntmps12
  go_wp2
  go_loopw [5] (fun i wr => ∃ (k : Nat), k ≤ ts.length ∧ i = .int .i64 k ∧ Below w.heap.size w wr) (fun i _ => ts.length - (intOf i).toNat)
  case atStart => exact ⟨0, Nat.zero_le _, rfl, Below.refl _ _⟩
  case round =>
    obtain ⟨k, hk, rfl, hbe⟩ := hrel
    by_cases hlt : k < ts.length
    · obtain ⟨b, off, rfl, hc0⟩ := HC.out k hlt
      obtain ⟨b', off', rfl, hc1⟩ := HC'.out k hlt
      have hblt : b < w.heap.size := World.block_lt_of_cell? w ⟨b, off + k, none⟩ hc0
      have hblt' : b' < w.heap.size := World.block_lt_of_cell? w ⟨b', off' + k, none⟩ hc1
      have hcell := (hbe.cell (p := ⟨b, off + k, none⟩) hblt).trans hc0
      have hcell' := (hbe.cell (p := ⟨b', off' + k, none⟩) hblt').trans hc1
      generalize hp : ts[k] = p at *
      clear hp hc0 hc1 HC HC' hblt hblt'
      have hk0 : (0 : Int) ≤ k := by omega
      have hk1 : (k : Int) < ts.length := by omega
      go_wp2
      go_quiet (fail)
      go_wp2
      go_roundw
      case rel => exact ⟨k + 1, by omega, by go_num, below_drewN hbe _⟩
      case measure => simp [intOf]; omega
    · go_wp2
      go_ret
      exact ⟨rfl, hbe⟩

end Go.Proofs.Ytfmfihgmpefknac

/-
  The walks of the law's own helpers toStringS (a copy in new memory) and eqStringS (at two lists of the same texts).
-/
import Derived.Test.YtegdladpkikicaaTextsW
namespace Go.Proofs.Ytegdladpkikicaa
open Go.RowKit

set_option maxHeartbeats 400000 in
theorem lawsTo (v : Value) (ts : List ByteArray) (w : World) (hT : Texts w v ts) (hl : ts.length ≤ 1048576) :
    Calls Try.prog 14 #[v] w fun e w' => e = .returned (.slice (some ⟨w.heap.size, 0, none⟩) ts.length ts.length) ∧ w'.ownsRow w.heap.size 9 1 (.slice (some ⟨w.heap.size, 0, none⟩) ts.length ts.length) ts.length (strV ts) ∧ Below w.heap.size w w' := by
  obtain ⟨i0, hi, hz0, hz1, hz2⟩ := info_parts Try.infoString
  obtain ⟨a, cap, rfl, hc⟩ : ∃ a cap, v = .slice a ts.length cap ∧ ∀ j (h : j < ts.length), ∃ b off, a = some ⟨b, off, none⟩ ∧ w.cell? ⟨b, off + j, none⟩ = some (.string ts[j]) := by
    rcases hT with ⟨h, a, cap, e⟩ | ⟨b, off, cap, e, hc⟩
    · subst h; exact ⟨a, cap, e, fun j hj => absurd hj (by simp)⟩
    · exact ⟨_, cap, e, fun j hj => ⟨b, off, rfl, hc j hj⟩⟩
  clear hT
  have HC : Hid (∀ j (h : j < ts.length), ∃ b off, a = some ⟨b, off, none⟩ ∧ w.cell? ⟨b, off + j, none⟩ = some (.string ts[j])) := hc
  clear hc
  go_enter Try.func14, Try.ntmps14
  go_wp2_with (at_make; refine wpList_make_full _ rfl _ _ 22 rfl w.heap.size 9 i0 (.string ⟨#[]⟩) 1 Try.underlying22 hi hz0 hz1 .i64 .i64 _ _ ts.length rfl rfl rfl rfl (by rw [hz2]; omega) (by unfold maxLen; omega) (Nat.le_refl _) ?_)
  intro w1 hown hgrow
  have hR : w1.ownsRow w.heap.size 9 1 (.slice (some ⟨w.heap.size, 0, none⟩) ts.length ts.length) ts.length (rowK ts 0) := by
    rw [rowK_zero]
    rw [toList_madeCells_one] at hown
    exact hown
  have hB : Below w.heap.size w w1 := (Below.refl _ _).grown hgrow (Nat.le_refl _) (fun k hk => by cases hk)
  clear hown hgrow
  go_wp2
  go_loopw [4] (fun i wr => ∃ (k : Nat), k ≤ ts.length ∧ i = .int .i64 k ∧ wr.ownsRow w.heap.size 9 1 (.slice (some ⟨w.heap.size, 0, none⟩) ts.length ts.length) ts.length (rowK ts k) ∧ Below w.heap.size w wr) (fun i _ => ts.length - (intOf i).toNat)
  case atStart => exact ⟨0, Nat.zero_le _, rfl, hR, hB⟩
  case round =>
    obtain ⟨k, hk, rfl, hown, hbe⟩ := hrel
    clear hR hB
    by_cases hlt : k < ts.length
    · obtain ⟨b, off, rfl, hc0⟩ := HC.out k hlt
      have hblt : b < w.heap.size := World.block_lt_of_cell? w ⟨b, off + k, none⟩ hc0
      have hcell := (hbe.cell (p := ⟨b, off + k, none⟩) hblt).trans hc0
      have HS : Hid ((rowK ts k).set k (.string ts[k]) = rowK ts (k + 1)) := rowK_set ts k hlt
      generalize hp : ts[k] = p at *
      clear hp hc0 HC
      have hfz := hown.frozenAt k
      have hold : ∃ u, wr.cell? ⟨w.heap.size, k, none⟩ = some u := by
        rw [hown.cellAt k (by omega)]
        have : k < (rowK ts k).length := by simp [rowK, strV]; omega
        exact ⟨_, List.getElem?_eq_getElem this⟩
      obtain ⟨u, hold⟩ := hold
      obtain ⟨R1, R2⟩ := hown.stored k (.string p)
      rw [HS.out] at R1
      have hbe2 : Below w.heap.size w (wr.setCell ⟨w.heap.size, k, none⟩ (.string p)) := hbe.setCell (Nat.le_refl _) _
      clear R2 hown
      go_wp2
      go_roundw
      case rel => exact ⟨k + 1, by omega, by go_num, R1, hbe2⟩
      case measure => simp [intOf]; omega
    · have hke : k = ts.length := by omega
      subst hke
      rw [rowK_all] at hown
      go_wp2
      go_ret
      exact ⟨rfl, hown, hbe⟩

set_option maxHeartbeats 400000 in
theorem lawsEq (va vb : Value) (ts : List ByteArray) (w : World) (hA : Texts w va ts) (hB : Texts w vb ts) (hl : ts.length ≤ 1048576) :
    Calls Try.prog 19 #[va, vb] w fun e w' => e = .returned (.bool true) ∧ Below w.heap.size w w' := by
  obtain ⟨a, cap, rfl, hc⟩ : ∃ a cap, va = .slice a ts.length cap ∧ ∀ j (h : j < ts.length), ∃ b off, a = some ⟨b, off, none⟩ ∧ w.cell? ⟨b, off + j, none⟩ = some (.string ts[j]) := by
    rcases hA with ⟨h, a, cap, e⟩ | ⟨b, off, cap, e, hc⟩
    · subst h; exact ⟨a, cap, e, fun j hj => absurd hj (by simp)⟩
    · exact ⟨_, cap, e, fun j hj => ⟨b, off, rfl, hc j hj⟩⟩
  obtain ⟨a', cap', rfl, hc'⟩ : ∃ a cap, vb = .slice a ts.length cap ∧ ∀ j (h : j < ts.length), ∃ b off, a = some ⟨b, off, none⟩ ∧ w.cell? ⟨b, off + j, none⟩ = some (.string ts[j]) := by
    rcases hB with ⟨h, a, cap, e⟩ | ⟨b, off, cap, e, hc⟩
    · subst h; exact ⟨a, cap, e, fun j hj => absurd hj (by simp)⟩
    · exact ⟨_, cap, e, fun j hj => ⟨b, off, rfl, hc j hj⟩⟩
  have HC : Hid (∀ j (h : j < ts.length), ∃ b off, a = some ⟨b, off, none⟩ ∧ w.cell? ⟨b, off + j, none⟩ = some (.string ts[j])) := hc
  have HC' : Hid (∀ j (h : j < ts.length), ∃ b off, a' = some ⟨b, off, none⟩ ∧ w.cell? ⟨b, off + j, none⟩ = some (.string ts[j])) := hc'
  clear hA hB hc hc'
  go_enter Try.func19, Try.ntmps19
  go_wp2
  go_loopw [5] (fun i wr => ∃ (k : Nat), k ≤ ts.length ∧ i = .int .i64 k ∧ Below w.heap.size w wr) (fun i _ => ts.length - (intOf i).toNat)
  case atStart => exact ⟨0, Nat.zero_le _, rfl, Below.refl _ _⟩
  case round =>
    obtain ⟨k, hk, rfl, hbe⟩ := hrel
    by_cases hlt : k < ts.length
    · obtain ⟨b, off, rfl, hc0⟩ := HC.out k hlt
      obtain ⟨b', off', rfl, hc1⟩ := HC'.out k hlt
      have hblt : b < w.heap.size := World.block_lt_of_cell? w ⟨b, off + k, none⟩ hc0
      have hblt' : b' < w.heap.size := World.block_lt_of_cell? w ⟨b', off' + k, none⟩ hc1
      have hcell := (hbe.cell (p := ⟨b, off + k, none⟩) hblt).trans hc0
      have hcell' := (hbe.cell (p := ⟨b', off' + k, none⟩) hblt').trans hc1
      generalize hp : ts[k] = p at *
      clear hp hc0 hc1 HC HC' hblt hblt'
      have hk0 : (0 : Int) ≤ k := by omega
      have hk1 : (k : Int) < ts.length := by omega
      go_wp2
      go_quiet (fail)
      go_wp2
      go_roundw
      case rel => exact ⟨k + 1, by omega, by go_num, below_drewN hbe _⟩
      case measure => simp [intOf]; omega
    · go_wp2
      go_ret
      exact ⟨rfl, hbe⟩

end Go.Proofs.Ytegdladpkikicaa

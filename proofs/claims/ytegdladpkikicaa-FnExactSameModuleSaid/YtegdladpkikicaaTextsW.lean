/-
  The walk of the law's own helper szStringS.
-/
import Derived.Test.YtegdladpkikicaaTextsD
namespace Go.Proofs.Ytegdladpkikicaa
open Go.RowKit

/-- what szStringS answers -/
def szS (ts : List ByteArray) (left : Int) : Int := if (ts.length : Int) + sumS ts ≤ left then left - ts.length - sumS ts else -1

set_option maxHeartbeats 400000 in
theorem lawsSz (v : Value) (ts : List ByteArray) (left : Int) (w : World) (hT : Texts w v ts) (hl : ts.length ≤ maxLen) (hs : ∀ t ∈ ts, t.size ≤ maxLen) (h0 : -1 ≤ left) (h1 : left ≤ 1048576) :
    Calls Try.prog 9 #[v, .int .i64 left] w fun e w' => e = .returned (.int .i64 (szS ts left)) ∧ w = w' := by
  unfold maxLen at hl hs
  by_cases hlen : left - (ts.length : Int) < 0
  · rw [show szS ts left = -1 from if_neg (by omega)]
    obtain ⟨a, cap, rfl⟩ : ∃ a cap, v = .slice a ts.length cap := by
      rcases hT with ⟨h, a, cap, e⟩ | ⟨b, off, cap, e, _⟩
      · exact ⟨a, cap, by rw [h, e]; rfl⟩
      · exact ⟨_, cap, e⟩
    clear hT hs
    go_enter Try.func9, Try.ntmps9
    go_wp2
    go_ret
    exact ⟨rfl, rfl⟩
  · rcases hT with ⟨h, a, cap, rfl⟩ | ⟨b, off, cap, rfl, hc⟩
    · subst h
      rw [show szS [] left = left from by simp [szS, sumS]; omega]
      simp at hlen
      go_enter Try.func9, Try.ntmps9
      go_wp2
      refine wp_loop_rounds 1 ?_
      rw [rounds_succ]
      go_wp2
      go_ret
      exact ⟨by simp, rfl⟩
    · have HC : Hid (∀ j (h : j < ts.length), w.cell? ⟨b, off + j, none⟩ = some (.string ts[j])) := hc
      have HS : Hid (∀ t ∈ ts, t.size ≤ 9223372036854775807) := hs
      clear hc hs
      go_enter Try.func9, Try.ntmps9
      go_wp2
      go_loop [1, 5] (fun l i => ∃ (k : Nat), k ≤ ts.length ∧ i = .int .i64 k ∧ l = .int .i64 (left - ts.length - sumS (ts.take k)) ∧ (sumS (ts.take k) : Int) ≤ left - ts.length) (fun _ i => ts.length - (intOf i).toNat)
      case atStart => exact ⟨0, Nat.zero_le _, rfl, by simp [sumS], by simp [sumS]; omega⟩
      case round =>
        obtain ⟨k, hk, rfl, rfl, hle⟩ := hrel
        by_cases hlt : k < ts.length
        · have hcell := HC.out k hlt
          have hsz := HS.out ts[k] (List.getElem_mem hlt)
          have HM : Hid (sumS (ts.take (k + 1)) = sumS (ts.take k) + ts[k].size) := sumS_more ts k hlt
          have HL : Hid (sumS (ts.take k) + ts[k].size ≤ sumS ts) := by
            have := sumS_take_le ts (k + 1)
            rw [HM.out] at this
            exact this
          generalize hp : ts[k] = p at *
          generalize hq : sumS (ts.take k) = q at *
          clear hp hq
          by_cases hneg : left - (ts.length : Int) - q - p.size < 0
          · go_wp2
            go_ret
            exact ⟨by rw [show szS ts left = -1 from if_neg (by have := HL.out; omega)]; rfl, rfl⟩
          · go_wp2
            go_round
            case rel => exact ⟨k + 1, by omega, by go_num, by rw [HM.out]; go_num, by rw [HM.out]; omega⟩
            case measure => simp [intOf]; omega
        · have hke : k = ts.length := by omega
          subst hke
          rw [List.take_of_length_le (Nat.le_refl _)] at hle ⊢
          go_wp2
          go_ret
          exact ⟨by rw [show szS ts left = left - ts.length - sumS ts from if_pos (by omega)]; rfl, rfl⟩

end Go.Proofs.Ytegdladpkikicaa

/-
  The walks of the law's own helpers eqToken and eqTokenS, at two lists of the same words.
-/
import Derived.Test.YtihpdngpedgjhaaDoorTokMem
import Derived.Deep.RegionWith
namespace Go.Proofs.YtihpdngpedgjhaaDoor
open Go.RowKit

set_option maxHeartbeats 400000 in
theorem lawsEqTok (t : Lx.Tok) (w : World) :
    Calls Tryd.prog 24 #[.agg #[.int .i64 (t.kind : Nat), .string t.text, .int .i64 (t.n : Nat), .int .i64 (t.line : Nat)], .agg #[.int .i64 (t.kind : Nat), .string t.text, .int .i64 (t.n : Nat), .int .i64 (t.line : Nat)]] w fun e w' => e = .returned (.bool true) ∧ Below w.heap.size w w' := by
  go_enter Tryd.func24, Tryd.ntmps24
  go_wp2
  go_ret
  exact ⟨rfl, ((Below.refl _ _).alloc (Nat.le_refl _) _).alloc (by simp) _⟩

set_option maxHeartbeats 800000 in
theorem lawsEqToks (va vb : Value) (ts : List Lx.Tok) (w : World) (hA : Toks w va ts) (hB : Toks w vb ts) (hl : ts.length ≤ 1048576) :
    Calls Tryd.prog 9 #[va, vb] w fun e w' => e = .returned (.bool true) ∧ Below w.heap.size w w' := by
  by_cases hn : ts.length = 0
  · have e0 : ts = [] := List.length_eq_zero_iff.1 hn
    subst e0
    obtain ⟨a, cap, rfl⟩ : ∃ a cap, va = .slice a 0 cap := by
      rcases hA with ⟨_, a, cap, e⟩ | ⟨g, cap, e, _⟩
      · exact ⟨a, cap, e⟩
      · exact ⟨_, cap, e⟩
    obtain ⟨a', cap', rfl⟩ : ∃ a cap, vb = .slice a 0 cap := by
      rcases hB with ⟨_, a, cap, e⟩ | ⟨g, cap, e, _⟩
      · exact ⟨a, cap, e⟩
      · exact ⟨_, cap, e⟩
    clear hA hB hl hn
    go_enter Tryd.func9, Tryd.ntmps9
    go_wp2
    refine wp_loop_rounds 1 ?_
    rw [rounds_succ]
    go_wp2
    go_ret
    exact ⟨rfl, Below.refl _ _⟩
  · obtain ⟨g, cap, rfl, hc⟩ : ∃ g cap, va = .slice (some ⟨g, 0, none⟩) ts.length cap ∧ ∀ k (h : k < ts.length), w.cell? ⟨g, k * 4, none⟩ = some (.int .i64 (ts[k].kind : Nat)) ∧ w.cell? ⟨g, k * 4 + 1, none⟩ = some (.string ts[k].text) ∧ w.cell? ⟨g, k * 4 + 2, none⟩ = some (.int .i64 (ts[k].n : Nat)) ∧ w.cell? ⟨g, k * 4 + 3, none⟩ = some (.int .i64 (ts[k].line : Nat)) := by
      rcases hA with ⟨h, _⟩ | h
      · rw [h] at hn; simp at hn
      · exact h
    obtain ⟨g', cap', rfl, hc'⟩ : ∃ g cap, vb = .slice (some ⟨g, 0, none⟩) ts.length cap ∧ ∀ k (h : k < ts.length), w.cell? ⟨g, k * 4, none⟩ = some (.int .i64 (ts[k].kind : Nat)) ∧ w.cell? ⟨g, k * 4 + 1, none⟩ = some (.string ts[k].text) ∧ w.cell? ⟨g, k * 4 + 2, none⟩ = some (.int .i64 (ts[k].n : Nat)) ∧ w.cell? ⟨g, k * 4 + 3, none⟩ = some (.int .i64 (ts[k].line : Nat)) := by
      rcases hB with ⟨h, _⟩ | h
      · rw [h] at hn; simp at hn
      · exact h
    have hg : g < w.heap.size := World.block_lt_of_cell? w ⟨g, 0 * 4, none⟩ (hc 0 (by omega)).1
    have hg' : g' < w.heap.size := World.block_lt_of_cell? w ⟨g', 0 * 4, none⟩ (hc' 0 (by omega)).1
    have HC : Hid (∀ k (h : k < ts.length), w.cell? ⟨g, k * 4, none⟩ = some (.int .i64 (ts[k].kind : Nat)) ∧ w.cell? ⟨g, k * 4 + 1, none⟩ = some (.string ts[k].text) ∧ w.cell? ⟨g, k * 4 + 2, none⟩ = some (.int .i64 (ts[k].n : Nat)) ∧ w.cell? ⟨g, k * 4 + 3, none⟩ = some (.int .i64 (ts[k].line : Nat))) := hc
    have HC' : Hid (∀ k (h : k < ts.length), w.cell? ⟨g', k * 4, none⟩ = some (.int .i64 (ts[k].kind : Nat)) ∧ w.cell? ⟨g', k * 4 + 1, none⟩ = some (.string ts[k].text) ∧ w.cell? ⟨g', k * 4 + 2, none⟩ = some (.int .i64 (ts[k].n : Nat)) ∧ w.cell? ⟨g', k * 4 + 3, none⟩ = some (.int .i64 (ts[k].line : Nat))) := hc'
    clear hA hB hc hc' hn
    go_enter Tryd.func9, Tryd.ntmps9
    go_wp2
    go_loopw [5] (fun i wr => ∃ (k : Nat), k ≤ ts.length ∧ i = .int .i64 k ∧ Below w.heap.size w wr) (fun i _ => ts.length - (intOf i).toNat)
    case atStart => exact ⟨0, Nat.zero_le _, rfl, Below.refl _ _⟩
    case round =>
      obtain ⟨k, hk, rfl, hbe⟩ := hrel
      by_cases hlt : k < ts.length
      · obtain ⟨a0, a1, a2, a3⟩ := HC.out k hlt
        obtain ⟨b0, b1, b2, b3⟩ := HC'.out k hlt
        have A0 := (hbe.cell (p := ⟨g, k * 4, none⟩) hg).trans a0
        have A1 := (hbe.cell (p := ⟨g, k * 4 + 1, none⟩) hg).trans a1
        have A2 := (hbe.cell (p := ⟨g, k * 4 + 2, none⟩) hg).trans a2
        have A3 := (hbe.cell (p := ⟨g, k * 4 + 3, none⟩) hg).trans a3
        have B0 := (hbe.cell (p := ⟨g', k * 4, none⟩) hg').trans b0
        have B1 := (hbe.cell (p := ⟨g', k * 4 + 1, none⟩) hg').trans b1
        have B2 := (hbe.cell (p := ⟨g', k * 4 + 2, none⟩) hg').trans b2
        have B3 := (hbe.cell (p := ⟨g', k * 4 + 3, none⟩) hg').trans b3
        generalize ts[k] = t at *
        clear a0 a1 a2 a3 b0 b1 b2 b3 HC HC'
        have hk0 : (0 : Int) ≤ k := by omega
        have hk1 : (k : Int) < ts.length := by omega
        go_wp2_with fail
        go_region_with (go_at_call 24; refine (lawsEqTok t _).mono ?_; rintro e w2 ⟨rfl, hb2⟩)
        all_goals
          go_wp2
          go_roundw
          case rel => exact ⟨k + 1, by omega, by go_num, hbe.trans ((((Below.refl _ _).drew).trans hb2).mono hbe.size)⟩
          case measure => simp [intOf]; omega
      · go_wp2
        go_ret
        exact ⟨rfl, hbe⟩

end Go.Proofs.YtihpdngpedgjhaaDoor

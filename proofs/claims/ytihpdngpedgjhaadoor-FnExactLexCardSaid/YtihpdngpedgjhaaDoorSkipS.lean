/-
  The walk of spec.l02Skip: the place of the next word, and its line.
-/
import Derived.Test.YtihpdngpedgjhaaDoorNameW
namespace Go.Proofs.YtihpdngpedgjhaaDoor
open Go.RowKit

/-- from a place and line on to another: nothing but what stands between words -/
structure Skips (s : ByteArray) (i line k l : Nat) : Prop where
  same : Lx.lexP s i line = Lx.lexP s k l
  lo : i ≤ k
  hi : k ≤ s.size
  l0 : line ≤ l
  l1 : l ≤ line + (k - i)
theorem Skips.refl {s : ByteArray} {i line : Nat} (h : i ≤ s.size) : Skips s i line i line := ⟨rfl, Nat.le_refl _, h, Nat.le_refl _, by omega⟩
theorem Skips.blank {s : ByteArray} {i line k l : Nat} (h : Skips s i line k l) (hk : k < s.size) (hb : Lx.byt s k = 32) : Skips s i line (k + 1) l := by
  have := h.lo; have := h.l1
  exact ⟨h.same.trans (Lx.lexP_blank hk hb), by omega, hk, h.l0, by omega⟩
theorem Skips.newline {s : ByteArray} {i line k l : Nat} (h : Skips s i line k l) (hk : k < s.size) (hb : Lx.byt s k = 10) : Skips s i line (k + 1) (l + 1) := by
  have := h.lo; have := h.l1; have := h.l0
  exact ⟨h.same.trans (Lx.lexP_newline hk hb), by omega, hk, by omega, by omega⟩
theorem Skips.note {s : ByteArray} {i line k l : Nat} (h : Skips s i line k l) (hk : k < s.size) (hb : Lx.byt s k = 35) : Skips s i line (Lx.endP Lx.noteB s k) l := by
  have := h.lo; have := h.l1; have := Lx.endP_ge Lx.noteB s k
  exact ⟨h.same.trans (Lx.lexP_note hk hb), by omega, Lx.endP_le Lx.noteB s k h.hi, h.l0, by omega⟩

set_option maxHeartbeats 800000 in
theorem specSkip (s : ByteArray) (i line : Nat) (w : World) (hs : s.size ≤ 3000) (hi : i ≤ s.size) (hline : line ≤ 3001) :
    Calls Tryd.prog 19 #[.string s, .int .i64 i, .int .i64 line] w fun e w' => (∃ k l : Nat, e = .returned (.tuple #[.int .i64 (k : Nat), .int .i64 (l : Nat)]) ∧ Skips s i line k l ∧ (k < s.size → Lx.byt s k ≠ 32 ∧ Lx.byt s k ≠ 10 ∧ Lx.byt s k ≠ 35)) ∧ w = w' := by
  go_enter Tryd.func19, Tryd.ntmps19
  go_wp2
  go_loop [1, 2] (fun a b => ∃ k l : Nat, Skips s i line k l ∧ a = .int .i64 k ∧ b = .int .i64 l) (fun a _ => s.size - (intOf a).toNat)
  case atStart => exact ⟨i, line, Skips.refl hi, rfl, rfl⟩
  case round =>
    obtain ⟨k, l, hsk, rfl, rfl⟩ := hrel
    have hk1 := hsk.lo
    have hk2 := hsk.hi
    have hl1 := hsk.l1
    have HS : Hid (Skips s i line k l) := hsk
    clear hsk
    by_cases hlt : k < s.size
    · have hbe := Lx.byt_eq s k hlt
      by_cases c1 : Lx.byt s k = 10
      · have HX : Hid (Skips s i line (k + 1) (l + 1)) := HS.out.newline hlt c1
        have g1 : ((Lx.byt s k : Int) == 10) = true := by simp [c1]
        clear c1
        go_wp2
        go_round
        case rel => exact ⟨k + 1, l + 1, HX.out, by go_num, by go_num⟩
        case measure => simp [intOf]; omega
      · have g1 : ((Lx.byt s k : Int) == 10) = false := by simp; omega
        by_cases c2 : Lx.byt s k = 32
        · have HX : Hid (Skips s i line (k + 1) l) := HS.out.blank hlt c2
          have g2 : ((Lx.byt s k : Int) == 32) = true := by simp [c2]
          clear c1 c2
          go_wp2
          go_round
          case rel => exact ⟨k + 1, l, HX.out, by go_num, rfl⟩
          case measure => simp [intOf]; omega
        · have g2 : ((Lx.byt s k : Int) == 32) = false := by simp; omega
          by_cases c3 : Lx.byt s k = 35
          · have HX : Hid (Skips s i line (Lx.endP Lx.noteB s k) l) := HS.out.note hlt c3
            have g3 : ((Lx.byt s k : Int) == 35) = true := by simp [c3]
            have hgt := Lx.noteEnd_gt hlt c3
            clear c1 c2 c3
            go_wp2
            go_loop [1] (fun a => ∃ j : Nat, k ≤ j ∧ j ≤ s.size ∧ Lx.endP Lx.noteB s k = Lx.endP Lx.noteB s j ∧ a = .int .i64 j) (fun a => s.size - (intOf a).toNat)
            case atStart => exact ⟨k, Nat.le_refl _, hk2, rfl, rfl⟩
            case round =>
              obtain ⟨j, hj0, hj, hje, rfl⟩ := hrel
              have HE : Hid (Lx.endP Lx.noteB s k = Lx.endP Lx.noteB s j) := hje
              clear hje
              by_cases hjl : j < s.size
              · have hbj := Lx.byt_eq s j hjl
                by_cases d : Lx.byt s j = 10
                · have HG : Hid (Lx.endP Lx.noteB s j = j) := Lx.endP_no (by simp [Lx.noteB, d])
                  have h10 : ((Lx.byt s j : Int) != 10) = false := by simp [d]
                  have hkj : k < j := by rw [← HG.out, ← HE.out]; exact hgt
                  have HX2 : Hid (Skips s i line j l) := by
                    have := HX.out
                    rw [HE.out, HG.out] at this
                    exact this
                  clear d
                  go_wp2
                  go_round
                  case rel => exact ⟨j, l, HX2.out, rfl, rfl⟩
                  case measure => simp [intOf]; omega
                · have HG : Hid (Lx.endP Lx.noteB s j = Lx.endP Lx.noteB s (j + 1)) := Lx.endP_go hjl (by simp [Lx.noteB, d])
                  have h10 : ((Lx.byt s j : Int) != 10) = true := by simp; omega
                  clear d
                  go_wp2
                  go_round
                  case rel => exact ⟨j + 1, by omega, by omega, by rw [HE.out, HG.out], by go_num⟩
                  case measure => simp [intOf]; omega
              · have HG : Hid (Lx.endP Lx.noteB s j = j) := Lx.endP_out (by omega)
                have hkj : k < j := by omega
                have HX2 : Hid (Skips s i line j l) := by
                  have := HX.out
                  rw [HE.out, HG.out] at this
                  exact this
                go_wp2
                go_round
                case rel => exact ⟨j, l, HX2.out, rfl, rfl⟩
                case measure => simp [intOf]; omega
          · have g3 : ((Lx.byt s k : Int) == 35) = false := by simp; omega
            have HN : Hid (Lx.byt s k ≠ 32 ∧ Lx.byt s k ≠ 10 ∧ Lx.byt s k ≠ 35) := ⟨c2, c1, c3⟩
            clear c1 c2 c3
            go_wp2
            go_ret2
            exact ⟨⟨k, l, rfl, HS.out, fun _ => HN.out⟩, rfl⟩
    · go_wp2
      go_ret2
      exact ⟨⟨k, l, rfl, HS.out, fun h => absurd h hlt⟩, rfl⟩

end Go.Proofs.YtihpdngpedgjhaaDoor

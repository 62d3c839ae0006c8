/-
  The walks of impl.classOf, nameEnd, digitsEnd and noteEnd, where the table of classes holds them.
-/
import Derived.Test.YtihpdngpedgjhaaDoorRows
import Derived.Test.YtihpdngpedgjhaaDoorLexP
import Derived.WalkKit
import Derived.WalkSpells
import Derived.WalkLawsBesides
import Derived.Deep.QuietTactic
import Derived.BigQuiet
namespace Go.Proofs.YtihpdngpedgjhaaDoor
open Go.RowKit

/-- the table of classes holds the classes -/
def ClsIs (w : World) : Prop := ∀ i, i < 128 → w.cell? ⟨0, i, none⟩ = some (.int .u8 (Lx.cls i : Nat))
theorem ClsIs.lt {w : World} (h : ClsIs w) : 0 < w.heap.size := World.block_lt_of_cell? w ⟨0, 0, none⟩ (h 0 (by decide))
theorem ClsIs.below {w w' : World} {B : Nat} (h : ClsIs w) (hb : Below B w w') (hB : 0 < B) : ClsIs w' := fun i hi =>
  (hb.cell (p := ⟨0, i, none⟩) hB).trans (h i hi)

theorem cls_big (b : Nat) (h : 128 ≤ b) : Lx.cls b = 0 := by
  unfold Lx.cls
  rw [if_neg (by simp [Lx.letterB]; omega), if_neg (by simp [Lx.digitB]; omega), if_neg (by omega), if_neg (by omega), if_neg (by omega), if_neg (by omega), if_neg (by simp [Lx.signB]; omega)]
theorem cls_le (b : Nat) : Lx.cls b ≤ 7 := by
  unfold Lx.cls
  repeat' split
  all_goals omega

set_option maxHeartbeats 400000 in
theorem implClassOf (b : Nat) (w : World) (hb : b < 256) (hc : ClsIs w) :
    Calls Tryd.prog 17 #[.int .u8 b] w fun e w' => e = .returned (.int .u8 (Lx.cls b : Nat)) ∧ w = w' := by
  by_cases h : 128 ≤ b
  · rw [cls_big b h]
    clear hc
    have h' : (128 : Int) ≤ b := by omega
    go_enter Tryd.func17, Tryd.ntmps17
    go_wp2
    go_ret
    exact ⟨rfl, rfl⟩
  · have h' : ¬ (128 : Int) ≤ b := by omega
    have hcell := hc b (by omega)
    generalize Lx.cls b = c at *
    clear hc
    go_enter Tryd.func17, Tryd.ntmps17
    go_wp2
    go_ret
    exact ⟨rfl, rfl⟩

theorem cls4 (b : Nat) : Lx.cls b = 4 ↔ Lx.letterB b = true := by
  unfold Lx.cls
  constructor
  · intro h
    by_cases hl : Lx.letterB b = true
    · exact hl
    · rw [if_neg hl] at h
      revert h
      repeat' split
      all_goals omega
  · intro h; rw [if_pos h]
theorem digit_no_letter (b : Nat) (h : Lx.digitB b = true) : Lx.letterB b = false := by
  simp [Lx.digitB, Lx.letterB] at h ⊢
  omega
theorem cls5 (b : Nat) : Lx.cls b = 5 ↔ Lx.digitB b = true := by
  unfold Lx.cls
  constructor
  · intro h
    by_cases hl : Lx.digitB b = true
    · exact hl
    · rw [if_neg hl] at h
      revert h
      repeat' split
      all_goals omega
  · intro h; rw [if_neg (by simp [digit_no_letter b h]), if_pos h]
theorem alB_cls (b : Nat) : Lx.alB b = true ↔ (Lx.cls b = 4 ∨ Lx.cls b = 5) := by
  rw [cls4, cls5]
  simp [Lx.alB]

set_option maxHeartbeats 400000 in
theorem implNameEnd (s : ByteArray) (i : Nat) (w : World) (hs : s.size ≤ 140737488355328) (hi : i ≤ s.size) (hc : ClsIs w) :
    Calls Tryd.prog 18 #[.string s, .int .i64 i] w fun e w' => e = .returned (.int .i64 (Lx.endP Lx.alB s i : Nat)) ∧ w = w' := by
  have HC : Hid (ClsIs w) := hc
  clear hc
  go_enter Tryd.func18, Tryd.ntmps18
  go_wp2
  go_loop [1] (fun a => ∃ k : Nat, k ≤ s.size ∧ a = .int .i64 k ∧ Lx.endP Lx.alB s i = Lx.endP Lx.alB s k) (fun a => s.size - (intOf a).toNat)
  case atStart => exact ⟨i, hi, rfl, rfl⟩
  case round =>
    obtain ⟨k, hk, rfl, he⟩ := hrel
    have HE : Hid (Lx.endP Lx.alB s i = Lx.endP Lx.alB s k) := he
    clear he
    by_cases hlt : k < s.size
    · have hb := Lx.byt_lt s k
      have hbe := Lx.byt_eq s k hlt
      have HK : Hid (∀ wx : World, wx = w → Calls Tryd.prog 17 #[.int .u8 (Lx.byt s k : Nat)] wx fun e w' => e = .returned (.int .u8 (Lx.cls (Lx.byt s k) : Nat)) ∧ wx = w') := fun wx hx => implClassOf _ wx hb (hx ▸ HC.out)
      by_cases ha : Lx.alB (Lx.byt s k) = true
      · have HG : Hid (Lx.endP Lx.alB s k = Lx.endP Lx.alB s (k + 1)) := Lx.endP_go hlt ha
        by_cases h4 : Lx.cls (Lx.byt s k) = 4
        · rw [h4] at HK
          go_wp2_with (go_at_call 17; refine (HK.out _ rfl).mono ?_; rintro e w1 ⟨rfl, rfl⟩)
          go_round
          case rel => exact ⟨k + 1, by omega, by go_num, by rw [HE.out, HG.out]⟩
          case measure => simp [intOf]; omega
        · have h5 : Lx.cls (Lx.byt s k) = 5 := by have := (alB_cls _).1 ha; omega
          rw [h5] at HK
          go_wp2_with (go_at_call 17; refine (HK.out _ rfl).mono ?_; rintro e w1 ⟨rfl, rfl⟩)
          go_round
          case rel => exact ⟨k + 1, by omega, by go_num, by rw [HE.out, HG.out]⟩
          case measure => simp [intOf]; omega
      · have HG : Hid (Lx.endP Lx.alB s k = k) := Lx.endP_no (by simpa using ha)
        have h45 := mt (alB_cls _).2 ha
        have h4 : ((Lx.cls (Lx.byt s k) : Int) == 4) = false := by simp; omega
        have h5 : ((Lx.cls (Lx.byt s k) : Int) == 5) = false := by simp; omega
        clear h45 ha
        generalize Lx.cls (Lx.byt s k) = c at *
        go_wp2_with (go_at_call 17; refine (HK.out _ rfl).mono ?_; rintro e w1 ⟨rfl, rfl⟩)
        go_ret
        exact ⟨by rw [HE.out, HG.out]; rfl, rfl⟩
    · have HG : Hid (Lx.endP Lx.alB s k = k) := Lx.endP_out (by omega)
      go_wp2
      go_ret
      exact ⟨by rw [HE.out, HG.out]; rfl, rfl⟩

end Go.Proofs.YtihpdngpedgjhaaDoor

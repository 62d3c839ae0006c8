/-
  The walks of impl.digitsEnd and impl.noteEnd.
-/
import Derived.Test.YtihpdngpedgjhaaDoorClassN
namespace Go.Proofs.YtihpdngpedgjhaaDoor
open Go.RowKit

set_option maxHeartbeats 400000 in
theorem implDigitsEnd (s : ByteArray) (i : Nat) (w : World) (hs : s.size ≤ 140737488355328) (hi : i ≤ s.size) (hc : ClsIs w) :
    Calls Tryd.prog 37 #[.string s, .int .i64 i] w fun e w' => e = .returned (.int .i64 (Lx.endP Lx.digitB s i : Nat)) ∧ w = w' := by
  have HC : Hid (ClsIs w) := hc
  clear hc
  go_enter Tryd.func37, Tryd.ntmps37
  go_wp2
  go_loop [1] (fun a => ∃ k : Nat, k ≤ s.size ∧ a = .int .i64 k ∧ Lx.endP Lx.digitB s i = Lx.endP Lx.digitB s k) (fun a => s.size - (intOf a).toNat)
  case atStart => exact ⟨i, hi, rfl, rfl⟩
  case round =>
    obtain ⟨k, hk, rfl, he⟩ := hrel
    have HE : Hid (Lx.endP Lx.digitB s i = Lx.endP Lx.digitB s k) := he
    clear he
    by_cases hlt : k < s.size
    · have hb := Lx.byt_lt s k
      have hbe := Lx.byt_eq s k hlt
      have HK : Hid (∀ wx : World, wx = w → Calls Tryd.prog 17 #[.int .u8 (Lx.byt s k : Nat)] wx fun e w' => e = .returned (.int .u8 (Lx.cls (Lx.byt s k) : Nat)) ∧ wx = w') := fun wx hx => implClassOf _ wx hb (hx ▸ HC.out)
      by_cases ha : Lx.digitB (Lx.byt s k) = true
      · have HG : Hid (Lx.endP Lx.digitB s k = Lx.endP Lx.digitB s (k + 1)) := Lx.endP_go hlt ha
        have h5 : Lx.cls (Lx.byt s k) = 5 := (cls5 _).2 ha
        rw [h5] at HK
        go_wp2_with (go_at_call 17; refine (HK.out _ rfl).mono ?_; rintro e w1 ⟨rfl, rfl⟩)
        go_round
        case rel => exact ⟨k + 1, by omega, by go_num, by rw [HE.out, HG.out]⟩
        case measure => simp [intOf]; omega
      · have HG : Hid (Lx.endP Lx.digitB s k = k) := Lx.endP_no (by simpa using ha)
        have h45 := mt (cls5 _).1 ha
        have h5 : ((Lx.cls (Lx.byt s k) : Int) == 5) = false := by simp; omega
        clear h45 ha
        generalize Lx.cls (Lx.byt s k) = c at *
        go_wp2_with (go_at_call 17; refine (HK.out _ rfl).mono ?_; rintro e w1 ⟨rfl, rfl⟩)
        go_ret
        exact ⟨by rw [HE.out, HG.out]; rfl, rfl⟩
    · have HG : Hid (Lx.endP Lx.digitB s k = k) := Lx.endP_out (by omega)
      go_wp2
      go_ret
      exact ⟨by rw [HE.out, HG.out]; rfl, rfl⟩

set_option maxHeartbeats 400000 in
theorem implNoteEnd (s : ByteArray) (i : Nat) (w : World) (hs : s.size ≤ 140737488355328) (hi : i ≤ s.size) :
    Calls Tryd.prog 28 #[.string s, .int .i64 i] w fun e w' => e = .returned (.int .i64 (Lx.endP Lx.noteB s i : Nat)) ∧ w = w' := by
  go_enter Tryd.func28, Tryd.ntmps28
  go_wp2
  go_loop [1] (fun a => ∃ k : Nat, k ≤ s.size ∧ a = .int .i64 k ∧ Lx.endP Lx.noteB s i = Lx.endP Lx.noteB s k) (fun a => s.size - (intOf a).toNat)
  case atStart => exact ⟨i, hi, rfl, rfl⟩
  case round =>
    obtain ⟨k, hk, rfl, he⟩ := hrel
    have HE : Hid (Lx.endP Lx.noteB s i = Lx.endP Lx.noteB s k) := he
    clear he
    by_cases hlt : k < s.size
    · have hbe := Lx.byt_eq s k hlt
      by_cases ha : Lx.byt s k = 10
      · have HG : Hid (Lx.endP Lx.noteB s k = k) := Lx.endP_no (by simp [Lx.noteB, ha])
        have h10 : ((Lx.byt s k : Int) != 10) = false := by simp [ha]
        clear ha
        go_wp2
        go_ret
        exact ⟨by rw [HE.out, HG.out]; rfl, rfl⟩
      · have HG : Hid (Lx.endP Lx.noteB s k = Lx.endP Lx.noteB s (k + 1)) := Lx.endP_go hlt (by simp [Lx.noteB, ha])
        have h10 : ((Lx.byt s k : Int) != 10) = true := by simp; omega
        clear ha
        go_wp2
        go_round
        case rel => exact ⟨k + 1, by omega, by go_num, by rw [HE.out, HG.out]⟩
        case measure => simp [intOf]; omega
    · have HG : Hid (Lx.endP Lx.noteB s k = k) := Lx.endP_out (by omega)
      go_wp2
      go_ret
      exact ⟨by rw [HE.out, HG.out]; rfl, rfl⟩

end Go.Proofs.YtihpdngpedgjhaaDoor

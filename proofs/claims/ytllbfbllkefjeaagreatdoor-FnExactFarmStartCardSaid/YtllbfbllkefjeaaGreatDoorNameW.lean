/-
  The walks of spec.l02Letter, spec.l02Digit, spec.NameOk and impl.NameOk: whether a text is a name.
-/
import Derived.Test.YtllbfbllkefjeaaGreatDoorLexP
namespace Go.Proofs.YtllbfbllkefjeaaGreatDoor
open Go.RowKit

set_option maxHeartbeats 400000 in
theorem specLetter (b : Nat) (w : World) (hb : b < 256) :
    Calls Tryz.prog 69 #[.int .u8 b] w fun e w' => e = .returned (.bool (Lx.letterB b)) ∧ w = w' := by
  by_cases h1 : 97 ≤ b ∧ b ≤ 122
  · have e : Lx.letterB b = true := by simp [Lx.letterB]; omega
    rw [e]
    obtain ⟨ha, hc⟩ := h1
    have ha' : (97 : Int) ≤ b := by omega
    have hc' : (b : Int) ≤ 122 := by omega
    go_enter Tryz.func69, Tryz.ntmps69
    go_wp2
    go_ret
    exact ⟨rfl, rfl⟩
  · by_cases h2 : 65 ≤ b ∧ b ≤ 90
    · have e : Lx.letterB b = true := by simp [Lx.letterB]; omega
      rw [e]
      obtain ⟨ha, hc⟩ := h2
      have ha' : (65 : Int) ≤ b := by omega
      have hc' : (b : Int) ≤ 90 := by omega
      have hd' : decide ((97 : Int) ≤ b) = false := by simp; omega
      clear h1
      go_enter Tryz.func69, Tryz.ntmps69
      go_wp2
      go_ret
      exact ⟨rfl, rfl⟩
    · have e : Lx.letterB b = false := by simp [Lx.letterB]; omega
      rw [e]
      have hx : (b < 65 ∨ (90 < b ∧ b < 97)) ∨ 122 < b := by omega
      clear h1 h2
      rcases hx with (hx | ⟨hx, hy⟩) | hx
      · have g1 : decide ((97 : Int) ≤ b) = false := by simp; omega
        have g2 : decide ((65 : Int) ≤ b) = false := by simp; omega
        go_enter Tryz.func69, Tryz.ntmps69
        go_wp2
        go_ret
        exact ⟨rfl, rfl⟩
      · have g1 : decide ((97 : Int) ≤ b) = false := by simp; omega
        have g2 : (65 : Int) ≤ b := by omega
        have g3 : decide ((b : Int) ≤ 90) = false := by simp; omega
        go_enter Tryz.func69, Tryz.ntmps69
        go_wp2
        go_ret
        exact ⟨rfl, rfl⟩
      · have g1 : (97 : Int) ≤ b := by omega
        have g2 : decide ((b : Int) ≤ 122) = false := by simp; omega
        have g3 : (65 : Int) ≤ b := by omega
        have g4 : decide ((b : Int) ≤ 90) = false := by simp; omega
        go_enter Tryz.func69, Tryz.ntmps69
        go_wp2
        go_ret
        exact ⟨rfl, rfl⟩

set_option maxHeartbeats 400000 in
theorem specDigit (b : Nat) (w : World) (hb : b < 256) :
    Calls Tryz.prog 70 #[.int .u8 b] w fun e w' => e = .returned (.bool (Lx.digitB b)) ∧ w = w' := by
  by_cases h1 : 48 ≤ b
  · by_cases h2 : b ≤ 57
    · have e : Lx.digitB b = true := by simp [Lx.digitB]; omega
      rw [e]
      have ha' : (48 : Int) ≤ b := by omega
      have hc' : (b : Int) ≤ 57 := by omega
      go_enter Tryz.func70, Tryz.ntmps70
      go_wp2
      go_ret
      exact ⟨rfl, rfl⟩
    · have e : Lx.digitB b = false := by simp [Lx.digitB]; omega
      rw [e]
      have ha' : (48 : Int) ≤ b := by omega
      have hc' : decide ((b : Int) ≤ 57) = false := by simp; omega
      go_enter Tryz.func70, Tryz.ntmps70
      go_wp2
      go_ret
      exact ⟨rfl, rfl⟩
  · have e : Lx.digitB b = false := by simp [Lx.digitB]; omega
    rw [e]
    have ha' : decide ((48 : Int) ≤ b) = false := by simp; omega
    go_enter Tryz.func70, Tryz.ntmps70
    go_wp2
    go_ret
    exact ⟨rfl, rfl⟩

theorem endP_all {p : Nat → Bool} {s : ByteArray} {k : Nat} (hk : k ≤ s.size) (h : ∀ j, k ≤ j → j < s.size → p (Lx.byt s j) = true) : Lx.endP p s k = s.size := by
  have h1 := Lx.endP_le p s k hk
  rcases Lx.endP_at p s k with h2 | h2
  · omega
  · by_cases h3 : Lx.endP p s k < s.size
    · rw [h _ (Lx.endP_ge p s k) h3] at h2
      cases h2
    · omega

/-- so far it may be a name -/
def Fine (s : ByteArray) (k : Nat) : Prop := ∀ j, j < k → Lx.letterB (Lx.byt s j) = true ∨ (j ≠ 0 ∧ Lx.digitB (Lx.byt s j) = true)
theorem Fine.more {s : ByteArray} {k : Nat} (h : Fine s k) (hk : Lx.letterB (Lx.byt s k) = true ∨ (k ≠ 0 ∧ Lx.digitB (Lx.byt s k) = true)) : Fine s (k + 1) := fun j hj => by
  by_cases e : j = k
  · subst e; exact hk
  · exact h j (by omega)
theorem Fine.ok {s : ByteArray} (h : Fine s s.size) (h1 : 1 ≤ s.size) (h2 : s.size ≤ 12) : Lx.nameOkP s = !Lx.isWordP s := by
  have e1 : Lx.letterB (Lx.byt s 0) = true := by
    rcases h 0 (by omega) with h | h
    · exact h
    · exact absurd rfl h.1
  have e2 : Lx.endP Lx.alB s 0 = s.size := endP_all (Nat.zero_le _) fun j _ hj => by
    rcases h j hj with h | h
    · simp [Lx.alB, h]
    · simp [Lx.alB, h.2]
  unfold Lx.nameOkP
  rw [e1, e2]
  simp [h1, h2]
theorem nameOk_size {s : ByteArray} (h : ¬ (1 ≤ s.size ∧ s.size ≤ 12)) : Lx.nameOkP s = false := by
  unfold Lx.nameOkP
  rw [decide_eq_false h]
  rfl
theorem nameOk_at {s : ByteArray} {k : Nat} (hk : k < s.size) (h1 : Lx.letterB (Lx.byt s k) = false) (h2 : k = 0 ∨ Lx.digitB (Lx.byt s k) = false) : Lx.nameOkP s = false := by
  unfold Lx.nameOkP
  have : (Lx.letterB (Lx.byt s 0) && decide (Lx.endP Lx.alB s 0 = s.size)) = false := by
    by_cases k0 : k = 0
    · subst k0; rw [h1]; rfl
    · have h3 : Lx.digitB (Lx.byt s k) = false := by rcases h2 with h | h; exact absurd h k0; exact h
      rw [Bool.and_eq_false_iff]
      right
      simp only [decide_eq_false_iff_not]
      intro e
      have := Lx.endP_in Lx.alB s 0 k (Nat.zero_le _) (by omega)
      simp [Lx.alB, h1, h3] at this
  rw [this]
  simp



set_option maxHeartbeats 800000 in
theorem specNameOk (s : ByteArray) (w : World) (hs : s.size ≤ 140737488355328) :
    Calls Tryz.prog 47 #[.string s] w fun e w' => e = .returned (.bool (Lx.nameOkP s)) ∧ Below w.heap.size w w' := by
  have HI : Hid (∀ wx : World, Calls Tryz.prog 71 #[.string s] wx fun e w' => e = .returned (.bool (Lx.isWordP s)) ∧ Below wx.heap.size wx w') := fun wx => specIsWord s wx
  go_enter Tryz.func47, Tryz.ntmps47
  go_wp2
  go_loop [3] (fun i => ∃ k : Nat, k ≤ s.size ∧ i = .int .i64 k ∧ Fine s k) (fun i => s.size - (intOf i).toNat)
  case atStart => exact ⟨0, Nat.zero_le _, rfl, fun j h => absurd h (by omega)⟩
  case round =>
    obtain ⟨k, hk, rfl, hf⟩ := hrel
    have HF : Hid (Fine s k) := hf
    clear hf
    by_cases hlt : k < s.size
    · have hb := Lx.byt_lt s k
      have hbe := Lx.byt_eq s k hlt
      have HL : Hid (∀ wx : World, Calls Tryz.prog 69 #[.int .u8 (Lx.byt s k : Nat)] wx fun e w' => e = .returned (.bool (Lx.letterB (Lx.byt s k))) ∧ wx = w') := fun wx => specLetter _ wx hb
      have HD : Hid (∀ wx : World, Calls Tryz.prog 70 #[.int .u8 (Lx.byt s k : Nat)] wx fun e w' => e = .returned (.bool (Lx.digitB (Lx.byt s k))) ∧ wx = w') := fun wx => specDigit _ wx hb
      have HM : Hid (Lx.letterB (Lx.byt s k) = true ∨ (k ≠ 0 ∧ Lx.digitB (Lx.byt s k) = true) → Fine s (k + 1)) := fun h => HF.out.more h
      have HN : Hid (Lx.letterB (Lx.byt s k) = false → (k = 0 ∨ Lx.digitB (Lx.byt s k) = false) → Lx.nameOkP s = false) := nameOk_at hlt
      generalize Lx.letterB (Lx.byt s k) = L at *
      generalize Lx.digitB (Lx.byt s k) = D at *
      cases L with
      | true =>
        have HX : Hid (Fine s (k + 1)) := HM.out (.inl rfl)
        clear HM HN
        go_wp2_with (go_at_call 69; refine (HL.out _).mono ?_; rintro e w1 ⟨rfl, rfl⟩)
        go_round
        case rel => exact ⟨k + 1, by omega, by go_num, HX.out⟩
        case measure => simp [intOf]; omega
      | false =>
        by_cases hk0 : k = 0
        · have HX : Hid (Lx.nameOkP s = false) := HN.out rfl (.inl hk0)
          have hk1 : ((k : Int) == 0) = true := by simp [hk0]
          clear hk0
          go_wp2_with (first | (go_at_call 69; refine (HL.out _).mono ?_; rintro e w1 ⟨rfl, rfl⟩) | (go_at_call 70; refine (HD.out _).mono ?_; rintro e w1 ⟨rfl, rfl⟩))
          go_ret
          exact ⟨by rw [HX.out]; rfl, Below.refl _ _⟩
        · have hk1 : ((k : Int) == 0) = false := by simp; omega
          cases D with
          | true =>
            have HX : Hid (Fine s (k + 1)) := HM.out (.inr ⟨hk0, rfl⟩)
            clear hk0
            go_wp2_with (first | (go_at_call 69; refine (HL.out _).mono ?_; rintro e w1 ⟨rfl, rfl⟩) | (go_at_call 70; refine (HD.out _).mono ?_; rintro e w1 ⟨rfl, rfl⟩))
            go_round
            case rel => exact ⟨k + 1, by omega, by go_num, HX.out⟩
            case measure => simp [intOf]; omega
          | false =>
            have HX : Hid (Lx.nameOkP s = false) := HN.out rfl (.inr rfl)
            clear hk0
            go_wp2_with (first | (go_at_call 69; refine (HL.out _).mono ?_; rintro e w1 ⟨rfl, rfl⟩) | (go_at_call 70; refine (HD.out _).mono ?_; rintro e w1 ⟨rfl, rfl⟩))
            go_ret
            exact ⟨by rw [HX.out]; rfl, Below.refl _ _⟩
    · have hke : k = s.size := by omega
      subst hke
      by_cases h1 : 1 ≤ s.size
      · by_cases h2 : s.size ≤ 12
        · have HX : Hid (Lx.nameOkP s = !Lx.isWordP s) := HF.out.ok h1 h2
          generalize Lx.isWordP s = r at *
          go_wp2_with (first | (go_at_call 20; go_in) | (go_at_call 71; refine (HI.out _).mono ?_; rintro e w1 ⟨rfl, hb1⟩))
          go_ret
          exact ⟨by rw [HX.out]; rfl, hb1⟩
        · have HX : Hid (Lx.nameOkP s = false) := nameOk_size (by omega)
          have g : decide ((s.size : Int) ≤ 12) = false := by simp; omega
          go_wp2_with (first | (go_at_call 20; go_in) | (go_at_call 71; refine (HI.out _).mono ?_; rintro e w1 ⟨rfl, hb1⟩))
          go_ret
          exact ⟨by rw [HX.out]; rfl, Below.refl _ _⟩
      · have HX : Hid (Lx.nameOkP s = false) := nameOk_size (by omega)
        have g : decide ((1 : Int) ≤ s.size) = false := by simp; omega
        go_wp2_with (first | (go_at_call 20; go_in) | (go_at_call 71; refine (HI.out _).mono ?_; rintro e w1 ⟨rfl, hb1⟩))
        go_ret
        exact ⟨by rw [HX.out]; rfl, Below.refl _ _⟩

theorem isEmpty_of {s : ByteArray} (h : s.size = 0) : s.toList.isEmpty = true := by
  rw [ByteArray.toList_eq]
  cases hl : s.data.toList with
  | nil => rfl
  | cons x r =>
    have h2 : s.data.toList.length = s.size := rfl
    rw [hl, h] at h2
    simp at h2
theorem isEmpty_no {s : ByteArray} (h : 0 < s.size) : s.toList.isEmpty = false := by
  rw [ByteArray.toList_eq]
  cases hl : s.data.toList with
  | nil =>
    have h2 : s.data.toList.length = s.size := rfl
    rw [hl] at h2
    simp at h2
    omega
  | cons x r => rfl

set_option maxHeartbeats 800000 in
theorem implNameOk (s : ByteArray) (w : World) (hs : s.size ≤ 140737488355328) (hc : ClsIs w) :
    Calls Tryz.prog 73 #[.string s] w fun e w' => e = .returned (.bool (Lx.nameOkP s)) ∧ w = w' := by
  have HI : Hid (∀ wx : World, Calls Tryz.prog 96 #[.string s] wx fun e w' => e = .returned (.bool (Lx.isWordP s)) ∧ wx = w') := fun wx => implIsWord s wx
  by_cases h0 : s.size = 0
  · have HX : Hid (Lx.nameOkP s = false) := nameOk_size (by omega)
    have he := isEmpty_of h0
    clear hc
    go_enter Tryz.func73, Tryz.ntmps73
    go_wp2
    go_ret
    exact ⟨by rw [HX.out]; rfl, rfl⟩
  · have he := isEmpty_no (s := s) (by omega)
    by_cases h12 : s.size ≤ 12
    · have g12 : decide ((12 : Int) < s.size) = false := by simp; omega
      have hw : Lx.nameOkP s = (decide (Lx.cls (Lx.byt s 0) = 4) && decide (Lx.endP Lx.alB s 0 = s.size) && !Lx.isWordP s) := by
        unfold Lx.nameOkP
        rw [decide_eq_true (show 1 ≤ s.size ∧ s.size ≤ 12 by omega), show decide (Lx.cls (Lx.byt s 0) = 4) = Lx.letterB (Lx.byt s 0) from by rw [Bool.eq_iff_iff]; simp [cls4]]
        simp
      have HW : Hid (Lx.nameOkP s = _) := hw
      have h00 : 0 < s.size := by omega
      have hbe := Lx.byt_eq s 0 h00
      have HC : Hid (∀ wx : World, wx = w → Calls Tryz.prog 97 #[.int .u8 (Lx.byt s 0 : Nat)] wx fun e w' => e = .returned (.int .u8 (Lx.cls (Lx.byt s 0) : Nat)) ∧ wx = w') := fun wx hx => implClassOf _ wx (Lx.byt_lt s 0) (hx ▸ hc)
      have HE : Hid (∀ wx : World, wx = w → Calls Tryz.prog 98 #[.string s, .int .i64 0] wx fun e w' => e = .returned (.int .i64 (Lx.endP Lx.alB s 0 : Nat)) ∧ wx = w') := fun wx hx => implNameEnd s 0 wx hs (Nat.zero_le _) (hx ▸ hc)
      clear hc hw
      generalize Lx.nameOkP s = r at *
      generalize Lx.isWordP s = r1 at *
      cases r1 with
      | true =>
        have HX : Hid (r = false) := by
          show _ = _
          rw [HW.out]; simp
        go_enter Tryz.func73, Tryz.ntmps73
        go_wp2_with (go_at_call 96; refine (HI.out _).mono ?_; rintro e w1 ⟨rfl, rfl⟩)
        go_ret
        exact ⟨by rw [HX.out]; rfl, rfl⟩
      | false =>
        by_cases hcl : Lx.cls (Lx.byt s 0) = 4
        · rw [hcl] at HC
          have hsz := Lx.endP_le Lx.alB s 0 (Nat.zero_le _)
          have HX : Hid (r = decide ((Lx.endP Lx.alB s 0 : Int) = (s.size : Int))) := by
            show _ = _
            rw [HW.out, decide_eq_true hcl, Bool.eq_iff_iff]
            simp
            omega
          generalize Lx.endP Lx.alB s 0 = E at *
          go_enter Tryz.func73, Tryz.ntmps73
          go_wp2_with (first | (go_at_call 96; refine (HI.out _).mono ?_; rintro e w1 ⟨rfl, rfl⟩) | (go_at_call 97; refine (HC.out _ rfl).mono ?_; rintro e w1 ⟨rfl, rfl⟩) | (go_at_call 98; refine (HE.out _ rfl).mono ?_; rintro e w1 ⟨rfl, rfl⟩))
          go_ret
          exact ⟨by rw [HX.out]; rfl, rfl⟩
        · have HX : Hid (r = false) := by
            show _ = _
            rw [HW.out, decide_eq_false hcl]; rfl
          have hne : ((Lx.cls (Lx.byt s 0) : Int) == 4) = false := by simp; omega
          clear hcl
          generalize Lx.cls (Lx.byt s 0) = c at *
          go_enter Tryz.func73, Tryz.ntmps73
          go_wp2_with (first | (go_at_call 96; refine (HI.out _).mono ?_; rintro e w1 ⟨rfl, rfl⟩) | (go_at_call 97; refine (HC.out _ rfl).mono ?_; rintro e w1 ⟨rfl, rfl⟩) | (go_at_call 98; refine (HE.out _ rfl).mono ?_; rintro e w1 ⟨rfl, rfl⟩))
          go_ret
          exact ⟨by rw [HX.out]; rfl, rfl⟩
    · have g12 : decide ((12 : Int) < s.size) = true := by simp; omega
      have HX : Hid (Lx.nameOkP s = false) := nameOk_size (by omega)
      clear hc
      go_enter Tryz.func73, Tryz.ntmps73
      go_wp2_with (go_at_call 96; refine (HI.out _).mono ?_; rintro e w1 ⟨rfl, rfl⟩)
      go_ret
      exact ⟨by rw [HX.out]; rfl, rfl⟩

end Go.Proofs.YtllbfbllkefjeaaGreatDoor

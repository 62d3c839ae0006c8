/-
  The walk of spec.l02Token at digits and at texts; and the whole of it.
-/
import Derived.Test.YtihpdngpedgjhaaDoorTokenS
namespace Go.Proofs.YtihpdngpedgjhaaDoor
open Go.RowKit

set_option maxHeartbeats 1600000 in
set_option maxRecDepth 100000 in
theorem tokDigit (s : ByteArray) (i E : Nat) (w : World) (hs : s.size ≤ 3000) (hi : i < s.size) (hL : Lx.letterB (Lx.byt s i) = false) (hD : Lx.digitB (Lx.byt s i) = true) (hE : Lx.endP Lx.digitB s i = E) (h9 : E - i ≤ 9) :
    Calls Tryd.prog 20 #[.string s, .int .i64 i] w fun e w' => e = .returned (.tuple #[tokV ⟨1, ByteArray.empty, Lx.numP s i (E - i), 0⟩, .int .i64 E]) ∧ Below w.heap.size w w' := by
  have hbe := Lx.byt_eq s i hi
  have HL : Hid (∀ wx : World, Calls Tryd.prog 12 #[.int .u8 (Lx.byt s i : Nat)] wx fun e w' => e = .returned (.bool false) ∧ wx = w') := fun wx => by
    have := specLetter _ wx (Lx.byt_lt s i)
    rw [hL] at this
    exact this
  have HD : Hid (∀ wx : World, Calls Tryd.prog 13 #[.int .u8 (Lx.byt s i : Nat)] wx fun e w' => e = .returned (.bool true) ∧ wx = w') := fun wx => by
    have := specDigit _ wx (Lx.byt_lt s i)
    rw [hD] at this
    exact this
  have hge := Lx.endP_ge Lx.digitB s i
  have hle := Lx.endP_le Lx.digitB s i (by omega)
  have HI : Hid (∀ j, i ≤ j → j < E → Lx.digitB (Lx.byt s j) = true) := fun j h1 h2 => Lx.endP_in Lx.digitB s i j h1 (by rw [hE]; exact h2)
  have HA : Hid (s.size ≤ E ∨ Lx.digitB (Lx.byt s E) = false) := by
    have := Lx.endP_at Lx.digitB s i
    rw [hE] at this
    exact this
  rw [hE] at hge hle
  clear hL hD hE
  go_enter Tryd.func20, Tryd.ntmps20
  go_wp2_with fail
  refine (HL.out _).mono ?_
  rintro e w1 ⟨rfl, rfl⟩
  go_wp2_with fail
  refine (HD.out _).mono ?_
  rintro e w1 ⟨rfl, rfl⟩
  go_wp2
  go_loop [6, 8] (fun a b => ∃ k : Nat, i ≤ k ∧ k ≤ E ∧ a = .int .i64 k ∧ b = .int .i64 (Lx.numP s i (k - i) : Nat)) (fun a _ => s.size - (intOf a).toNat)
  case atStart => exact ⟨i, Nat.le_refl _, hge, rfl, by simp [Lx.numP]⟩
  case round =>
    obtain ⟨k, hk0, hk, rfl, rfl⟩ := hrel
    by_cases hkE : k < E
    · have hlt : k < s.size := by omega
      have hbk := Lx.byt_eq s k hlt
      have hd := HI.out k hk0 hkE
      have HDk : Hid (∀ wx : World, Calls Tryd.prog 13 #[.int .u8 (Lx.byt s k : Nat)] wx fun e w' => e = .returned (.bool true) ∧ wx = w') := fun wx => by
        have := specDigit (Lx.byt s k) wx (Lx.byt_lt s k)
        rw [hd] at this
        exact this
      have hb : 48 ≤ Lx.byt s k ∧ Lx.byt s k ≤ 57 := by simpa [Lx.digitB] using hd
      obtain ⟨hb1, hb2⟩ := hb
      have hn0 := numP_lt s i (k - i) fun j hj => HI.out (i + j) (by omega) (by omega)
      have hn : Lx.numP s i (k - i) < 1000000000 := Nat.lt_of_lt_of_le hn0 (Nat.le_trans (Nat.pow_le_pow_right (by omega) (show k - i ≤ 9 by omega)) (by decide))
      have HS : Hid (Lx.numP s i (k + 1 - i) = 10 * Lx.numP s i (k - i) + (Lx.byt s k - 48)) := by
        show _ = _
        rw [show k + 1 - i = (k - i) + 1 from by omega, Lx.numP, show i + (k - i) = k from by omega]
      have g9 : ¬ (9 : Int) ≤ (k : Int) - i := by omega
      clear hd hn0
      generalize Lx.numP s i (k - i) = n at *
      generalize Lx.byt s k = b at *
      go_wp2_with (go_at_call 13; refine (HDk.out _).mono ?_; rintro e w1 ⟨rfl, rfl⟩)
      go_round
      case rel => exact ⟨k + 1, by omega, by omega, by go_num, by rw [HS.out]; simp; omega⟩
      case measure => simp [intOf]; omega
    · have hke : k = E := by omega
      subst hke
      by_cases hlt : k < s.size
      · have hbk := Lx.byt_eq s k hlt
        have hd : Lx.digitB (Lx.byt s k) = false := by
          rcases HA.out with h | h
          · omega
          · exact h
        have HDk : Hid (∀ wx : World, Calls Tryd.prog 13 #[.int .u8 (Lx.byt s k : Nat)] wx fun e w' => e = .returned (.bool false) ∧ wx = w') := fun wx => by
          have := specDigit (Lx.byt s k) wx (Lx.byt_lt s k)
          rw [hd] at this
          exact this
        clear hd
        generalize hn : Lx.numP s i (k - i) = n at *
        have HN : Hid (Lx.numP s i (k - i) = n) := hn
        clear hn
        go_wp2_with (go_at_call 13; refine (HDk.out _).mono ?_; rintro e w1 ⟨rfl, rfl⟩)
        refine bodyPost_ret (v := .tuple #[tokV ⟨1, ByteArray.empty, n, 0⟩, .int .i64 k]) ?_ rfl ⟨by rw [HN.out], ?_⟩
        · simp [results, Tryd.results20, go_sem, tokV]
          rfl
        · exact (Below.refl _ _).alloc (Nat.le_refl _) _
      · generalize hn : Lx.numP s i (k - i) = n at *
        have HN : Hid (Lx.numP s i (k - i) = n) := hn
        clear hn
        go_wp2
        refine bodyPost_ret (v := .tuple #[tokV ⟨1, ByteArray.empty, n, 0⟩, .int .i64 k]) ?_ rfl ⟨by rw [HN.out], ?_⟩
        · simp [results, Tryd.results20, go_sem, tokV]
          rfl
        · exact (Below.refl _ _).alloc (Nat.le_refl _) _

set_option maxHeartbeats 1600000 in
set_option maxRecDepth 100000 in
theorem tokDigit_no (s : ByteArray) (i E : Nat) (w : World) (hs : s.size ≤ 3000) (hi : i < s.size) (hL : Lx.letterB (Lx.byt s i) = false) (hD : Lx.digitB (Lx.byt s i) = true) (hE : Lx.endP Lx.digitB s i = E) (h9 : 9 < E - i) :
    Calls Tryd.prog 20 #[.string s, .int .i64 i] w fun e w' => e = .returned (.tuple #[tokV ⟨0, ByteArray.empty, 0, 0⟩, .int .i64 (-1)]) ∧ Below w.heap.size w w' := by
  have hbe := Lx.byt_eq s i hi
  have HL : Hid (∀ wx : World, Calls Tryd.prog 12 #[.int .u8 (Lx.byt s i : Nat)] wx fun e w' => e = .returned (.bool false) ∧ wx = w') := fun wx => by
    have := specLetter _ wx (Lx.byt_lt s i)
    rw [hL] at this
    exact this
  have HD : Hid (∀ wx : World, Calls Tryd.prog 13 #[.int .u8 (Lx.byt s i : Nat)] wx fun e w' => e = .returned (.bool true) ∧ wx = w') := fun wx => by
    have := specDigit _ wx (Lx.byt_lt s i)
    rw [hD] at this
    exact this
  have hge := Lx.endP_ge Lx.digitB s i
  have hle := Lx.endP_le Lx.digitB s i (by omega)
  have HI : Hid (∀ j, i ≤ j → j < E → Lx.digitB (Lx.byt s j) = true) := fun j h1 h2 => Lx.endP_in Lx.digitB s i j h1 (by rw [hE]; exact h2)
  rw [hE] at hge hle
  clear hL hD hE
  go_enter Tryd.func20, Tryd.ntmps20
  go_wp2_with fail
  refine (HL.out _).mono ?_
  rintro e w1 ⟨rfl, rfl⟩
  go_wp2_with fail
  refine (HD.out _).mono ?_
  rintro e w1 ⟨rfl, rfl⟩
  go_wp2
  go_loop [6, 8] (fun a b => ∃ k : Nat, i ≤ k ∧ k ≤ i + 9 ∧ a = .int .i64 k ∧ b = .int .i64 (Lx.numP s i (k - i) : Nat)) (fun a _ => s.size - (intOf a).toNat)
  case atStart => exact ⟨i, Nat.le_refl _, by omega, rfl, by simp [Lx.numP]⟩
  case round =>
    obtain ⟨k, hk0, hk, rfl, rfl⟩ := hrel
    have hkE : k < E := by omega
    have hlt : k < s.size := by omega
    have hbk := Lx.byt_eq s k hlt
    have hd := HI.out k hk0 hkE
    have HDk : Hid (∀ wx : World, Calls Tryd.prog 13 #[.int .u8 (Lx.byt s k : Nat)] wx fun e w' => e = .returned (.bool true) ∧ wx = w') := fun wx => by
      have := specDigit (Lx.byt s k) wx (Lx.byt_lt s k)
      rw [hd] at this
      exact this
    have hb : 48 ≤ Lx.byt s k ∧ Lx.byt s k ≤ 57 := by simpa [Lx.digitB] using hd
    obtain ⟨hb1, hb2⟩ := hb
    have hn0 := numP_lt s i (k - i) fun j hj => HI.out (i + j) (by omega) (by omega)
    have hn : Lx.numP s i (k - i) < 1000000000 := Nat.lt_of_lt_of_le hn0 (Nat.le_trans (Nat.pow_le_pow_right (by omega) (show k - i ≤ 9 by omega)) (by decide))
    have HS : Hid (Lx.numP s i (k + 1 - i) = 10 * Lx.numP s i (k - i) + (Lx.byt s k - 48)) := by
      show _ = _
      rw [show k + 1 - i = (k - i) + 1 from by omega, Lx.numP, show i + (k - i) = k from by omega]
    clear hd hn0
    generalize Lx.numP s i (k - i) = n at *
    generalize Lx.byt s k = b at *
    by_cases h9k : k = i + 9
    · have g9 : (9 : Int) ≤ (k : Int) - i := by omega
      clear h9k
      go_wp2_with (go_at_call 13; refine (HDk.out _).mono ?_; rintro e w1 ⟨rfl, rfl⟩)
      refine bodyPost_ret (v := .tuple #[tokV ⟨0, ByteArray.empty, 0, 0⟩, .int .i64 (-1)]) ?_ rfl ⟨rfl, ?_⟩
      · simp [results, Tryd.results20, go_sem, tokV]
        rfl
      · exact (Below.refl _ _).alloc (Nat.le_refl _) _
    · have g9 : ¬ (9 : Int) ≤ (k : Int) - i := by omega
      go_wp2_with (go_at_call 13; refine (HDk.out _).mono ?_; rintro e w1 ⟨rfl, rfl⟩)
      go_round
      case rel => exact ⟨k + 1, by omega, by omega, by go_num, by rw [HS.out]; simp; omega⟩
      case measure => simp [intOf]; omega

set_option maxHeartbeats 1600000 in
set_option maxRecDepth 100000 in
theorem tokQuote (s : ByteArray) (i E : Nat) (w : World) (hs : s.size ≤ 3000) (hi : i < s.size) (hL : Lx.letterB (Lx.byt s i) = false) (hD : Lx.digitB (Lx.byt s i) = false) (hQ : Lx.byt s i = 34) (hE : Lx.endP Lx.textB s (i + 1) = E) (h1 : E < s.size) (h2 : Lx.byt s E = 34) :
    Calls Tryd.prog 20 #[.string s, .int .i64 i] w fun e w' => e = .returned (.tuple #[tokV ⟨2, s.extract (i + 1) E, 0, 0⟩, .int .i64 ((E + 1 : Nat) : Int)]) ∧ Below w.heap.size w w' := by
  have hbe := Lx.byt_eq s i hi
  have HL : Hid (∀ wx : World, Calls Tryd.prog 12 #[.int .u8 (Lx.byt s i : Nat)] wx fun e w' => e = .returned (.bool false) ∧ wx = w') := fun wx => by
    have := specLetter _ wx (Lx.byt_lt s i)
    rw [hL] at this
    exact this
  have HD : Hid (∀ wx : World, Calls Tryd.prog 13 #[.int .u8 (Lx.byt s i : Nat)] wx fun e w' => e = .returned (.bool false) ∧ wx = w') := fun wx => by
    have := specDigit _ wx (Lx.byt_lt s i)
    rw [hD] at this
    exact this
  have g34 : ((Lx.byt s i : Int) == 34) = true := by simp [hQ]
  have hge := Lx.endP_ge Lx.textB s (i + 1)
  have hle := Lx.endP_le Lx.textB s (i + 1) (by omega)
  have HI : Hid (∀ j, i + 1 ≤ j → j < E → Lx.textB (Lx.byt s j) = true) := fun j h1 h2 => Lx.endP_in Lx.textB s (i + 1) j h1 (by rw [hE]; exact h2)
  rw [hE] at hge hle
  have hsl : ∀ wx : World, (Instr.slice 9 (.string s) (some (.int .i64 ((i : Int) + 1))) (some (.int .i64 (E : Int))) none).run Tryd.prog wx = .ok (.string (s.extract (i + 1) E)) wx := fun wx => run_cut s (i + 1) E hge (by omega) wx
  generalize s.extract (i + 1) E = T at *
  have H2 : Hid (Lx.byt s E = 34) := h2
  clear hL hD hQ hE h2
  go_enter Tryd.func20, Tryd.ntmps20
  go_wp2_with fail
  refine (HL.out _).mono ?_
  rintro e w1 ⟨rfl, rfl⟩
  go_wp2_with fail
  refine (HD.out _).mono ?_
  rintro e w1 ⟨rfl, rfl⟩
  go_wp2
  go_loop [6] (fun a => ∃ k : Nat, i + 1 ≤ k ∧ k ≤ E ∧ a = .int .i64 k) (fun a => s.size - (intOf a).toNat)
  case atStart => exact ⟨i + 1, Nat.le_refl _, hge, by go_num⟩
  case round =>
    obtain ⟨k, hk0, hk, rfl⟩ := hrel
    by_cases hkE : k < E
    · have hlt : k < s.size := by omega
      have hbk := Lx.byt_eq s k hlt
      have ht := HI.out k hk0 hkE
      simp only [Lx.textB, decide_eq_true_eq] at ht
      obtain ⟨ht1, ht2, ht3, ht4⟩ := ht
      have h34 : ((Lx.byt s k : Int) != 34) = true := by simp; omega
      have h92 : ((Lx.byt s k : Int) != 92) = true := by simp; omega
      have h32 : (32 : Int) ≤ Lx.byt s k := by omega
      have h126 : (Lx.byt s k : Int) ≤ 126 := by omega
      clear ht1 ht2 ht3 ht4
      go_wp2
      go_round
      case rel => exact ⟨k + 1, by omega, by omega, by go_num⟩
      case measure => simp [intOf]; omega
    · have hke : k = E := by omega
      subst hke
      have hbk := Lx.byt_eq s k h1
      have h34 : ((Lx.byt s k : Int) != 34) = false := by simp [H2.out]
      have h32 : (32 : Int) ≤ Lx.byt s k := by rw [H2.out]; decide
      have h126 : (Lx.byt s k : Int) ≤ 126 := by rw [H2.out]; decide
      have hgeq : decide ((s.size : Int) ≤ k) = false := by simp; omega
      go_wp2
      refine bodyPost_ret (v := .tuple #[tokV ⟨2, T, 0, 0⟩, .int .i64 ((k + 1 : Nat) : Int)]) ?_ rfl ⟨rfl, ?_⟩
      · simp [results, Tryd.results20, go_sem, tokV]
      · exact (Below.refl _ _).alloc (Nat.le_refl _) _

set_option maxHeartbeats 1600000 in
set_option maxRecDepth 100000 in
theorem tokQuote_no (s : ByteArray) (i E : Nat) (w : World) (hs : s.size ≤ 3000) (hi : i < s.size) (hL : Lx.letterB (Lx.byt s i) = false) (hD : Lx.digitB (Lx.byt s i) = false) (hQ : Lx.byt s i = 34) (hE : Lx.endP Lx.textB s (i + 1) = E) (h : ¬ (E < s.size ∧ Lx.byt s E = 34)) :
    Calls Tryd.prog 20 #[.string s, .int .i64 i] w fun e w' => e = .returned (.tuple #[tokV ⟨0, ByteArray.empty, 0, 0⟩, .int .i64 (-1)]) ∧ Below w.heap.size w w' := by
  have hbe := Lx.byt_eq s i hi
  have HL : Hid (∀ wx : World, Calls Tryd.prog 12 #[.int .u8 (Lx.byt s i : Nat)] wx fun e w' => e = .returned (.bool false) ∧ wx = w') := fun wx => by
    have := specLetter _ wx (Lx.byt_lt s i)
    rw [hL] at this
    exact this
  have HD : Hid (∀ wx : World, Calls Tryd.prog 13 #[.int .u8 (Lx.byt s i : Nat)] wx fun e w' => e = .returned (.bool false) ∧ wx = w') := fun wx => by
    have := specDigit _ wx (Lx.byt_lt s i)
    rw [hD] at this
    exact this
  have g34 : ((Lx.byt s i : Int) == 34) = true := by simp [hQ]
  have hge := Lx.endP_ge Lx.textB s (i + 1)
  have hle := Lx.endP_le Lx.textB s (i + 1) (by omega)
  have HI : Hid (∀ j, i + 1 ≤ j → j < E → Lx.textB (Lx.byt s j) = true) := fun j h1 h2 => Lx.endP_in Lx.textB s (i + 1) j h1 (by rw [hE]; exact h2)
  rw [hE] at hge hle
  have HA : Hid (E < s.size → Lx.byt s E ≠ 34 ∧ Lx.textB (Lx.byt s E) = false) := fun hl => by
    refine ⟨fun e => h ⟨hl, e⟩, ?_⟩
    have := Lx.endP_at Lx.textB s (i + 1)
    rw [hE] at this
    rcases this with g | g
    · omega
    · exact g
  clear hL hD hQ hE h
  go_enter Tryd.func20, Tryd.ntmps20
  go_wp2_with fail
  refine (HL.out _).mono ?_
  rintro e w1 ⟨rfl, rfl⟩
  go_wp2_with fail
  refine (HD.out _).mono ?_
  rintro e w1 ⟨rfl, rfl⟩
  go_wp2
  go_loop [6] (fun a => ∃ k : Nat, i + 1 ≤ k ∧ k ≤ E ∧ a = .int .i64 k) (fun a => s.size - (intOf a).toNat)
  case atStart => exact ⟨i + 1, Nat.le_refl _, hge, by go_num⟩
  case round =>
    obtain ⟨k, hk0, hk, rfl⟩ := hrel
    by_cases hkE : k < E
    · have hlt : k < s.size := by omega
      have hbk := Lx.byt_eq s k hlt
      have ht := HI.out k hk0 hkE
      simp only [Lx.textB, decide_eq_true_eq] at ht
      obtain ⟨ht1, ht2, ht3, ht4⟩ := ht
      have h34 : ((Lx.byt s k : Int) != 34) = true := by simp; omega
      have h92 : ((Lx.byt s k : Int) != 92) = true := by simp; omega
      have h32 : (32 : Int) ≤ Lx.byt s k := by omega
      have h126 : (Lx.byt s k : Int) ≤ 126 := by omega
      clear ht1 ht2 ht3 ht4
      go_wp2
      go_round
      case rel => exact ⟨k + 1, by omega, by omega, by go_num⟩
      case measure => simp [intOf]; omega
    · have hke : k = E := by omega
      subst hke
      by_cases hlt : k < s.size
      · have hbk := Lx.byt_eq s k hlt
        obtain ⟨n34, ht⟩ := HA.out hlt
        simp only [Lx.textB, decide_eq_false_iff_not] at ht
        have h34 : ((Lx.byt s k : Int) != 34) = true := by simp; omega
        have hgeq : decide ((s.size : Int) ≤ k) = false := by simp; omega
        by_cases c1 : Lx.byt s k < 32
        · have h32 : ¬ (32 : Int) ≤ Lx.byt s k := by omega
          clear ht n34 c1
          go_wp2
          refine bodyPost_ret (v := .tuple #[tokV ⟨0, ByteArray.empty, 0, 0⟩, .int .i64 (-1)]) ?_ rfl ⟨rfl, ?_⟩
          · simp [results, Tryd.results20, go_sem, tokV]
            rfl
          · exact (Below.refl _ _).alloc (Nat.le_refl _) _
        · have h32 : (32 : Int) ≤ Lx.byt s k := by omega
          by_cases c2 : 126 < Lx.byt s k
          · have h126 : ¬ (Lx.byt s k : Int) ≤ 126 := by omega
            have hbl : (Lx.byt s k : Int) < 256 := by have := Lx.byt_lt s k; omega
            clear ht n34 c1 c2
            go_wp2
            refine bodyPost_ret (v := .tuple #[tokV ⟨0, ByteArray.empty, 0, 0⟩, .int .i64 (-1)]) ?_ rfl ⟨rfl, ?_⟩
            · simp [results, Tryd.results20, go_sem, tokV]
              rfl
            · exact (Below.refl _ _).alloc (Nat.le_refl _) _
          · have h126 : (Lx.byt s k : Int) ≤ 126 := by omega
            have h92 : ((Lx.byt s k : Int) != 92) = false := by simp; omega
            clear ht n34 c1 c2
            go_wp2
            refine bodyPost_ret (v := .tuple #[tokV ⟨0, ByteArray.empty, 0, 0⟩, .int .i64 (-1)]) ?_ rfl ⟨rfl, ?_⟩
            · simp [results, Tryd.results20, go_sem, tokV]
              rfl
            · exact (Below.refl _ _).alloc (Nat.le_refl _) _
      · have hgeq : (s.size : Int) ≤ k := by omega
        go_wp2
        refine bodyPost_ret (v := .tuple #[tokV ⟨0, ByteArray.empty, 0, 0⟩, .int .i64 (-1)]) ?_ rfl ⟨rfl, ?_⟩
        · simp [results, Tryd.results20, go_sem, tokV]
          rfl
        · exact (Below.refl _ _).alloc (Nat.le_refl _) _

/-- l02Token where a word begins -/
theorem tokYes (s : ByteArray) (i : Nat) (t : Lx.Tok) (k : Nat) (w : World) (hs : s.size ≤ 3000) (hi : i < s.size) (h : Lx.tokP s i 0 = some (t, k)) :
    Calls Tryd.prog 20 #[.string s, .int .i64 i] w fun e w' => e = .returned (.tuple #[tokV t, .int .i64 (k : Nat)]) ∧ Below w.heap.size w w' := by
  unfold Lx.tokP at h
  by_cases c1 : Lx.letterB (Lx.byt s i) = true
  · rw [if_pos c1] at h
    by_cases c2 : 12 < Lx.endP Lx.alB s i - i
    · rw [if_pos c2] at h; cases h
    · rw [if_neg c2] at h
      cases h
      exact tokLetter s i _ w hs hi c1 rfl (by omega)
  · rw [if_neg c1] at h
    have c1' : Lx.letterB (Lx.byt s i) = false := by simpa using c1
    by_cases c3 : Lx.digitB (Lx.byt s i) = true
    · rw [if_pos c3] at h
      by_cases c2 : 9 < Lx.endP Lx.digitB s i - i
      · rw [if_pos c2] at h; cases h
      · rw [if_neg c2] at h
        cases h
        exact tokDigit s i _ w hs hi c1' c3 rfl (by omega)
    · rw [if_neg c3] at h
      have c3' : Lx.digitB (Lx.byt s i) = false := by simpa using c3
      by_cases c4 : Lx.byt s i = 34
      · rw [if_pos c4] at h
        by_cases c2 : Lx.endP Lx.textB s (i + 1) < s.size ∧ Lx.byt s (Lx.endP Lx.textB s (i + 1)) = 34
        · rw [if_pos c2] at h
          cases h
          exact tokQuote s i _ w hs hi c1' c3' c4 rfl c2.1 c2.2
        · rw [if_neg c2] at h; cases h
      · rw [if_neg c4] at h
        by_cases c5 : Lx.twoB s i = true
        · rw [if_pos c5] at h
          cases h
          exact tokTwo s i w hs hi c1' c3' c4 c5
        · rw [if_neg c5] at h
          by_cases c6 : Lx.signB (Lx.byt s i) = true
          · rw [if_pos c6] at h
            cases h
            exact tokOne s i w hs hi c1' c3' c4 (by simpa using c5) c6
          · rw [if_neg c6] at h; cases h

/-- l02Token where none begins -/
theorem tokNo (s : ByteArray) (i : Nat) (w : World) (hs : s.size ≤ 3000) (hi : i < s.size) (h : Lx.tokP s i 0 = none) :
    Calls Tryd.prog 20 #[.string s, .int .i64 i] w fun e w' => e = .returned (.tuple #[tokV ⟨0, ByteArray.empty, 0, 0⟩, .int .i64 (-1)]) ∧ Below w.heap.size w w' := by
  unfold Lx.tokP at h
  by_cases c1 : Lx.letterB (Lx.byt s i) = true
  · rw [if_pos c1] at h
    by_cases c2 : 12 < Lx.endP Lx.alB s i - i
    · exact tokLetter_no s i _ w hs hi c1 rfl c2
    · rw [if_neg c2] at h; cases h
  · rw [if_neg c1] at h
    have c1' : Lx.letterB (Lx.byt s i) = false := by simpa using c1
    by_cases c3 : Lx.digitB (Lx.byt s i) = true
    · rw [if_pos c3] at h
      by_cases c2 : 9 < Lx.endP Lx.digitB s i - i
      · exact tokDigit_no s i _ w hs hi c1' c3 rfl c2
      · rw [if_neg c2] at h; cases h
    · rw [if_neg c3] at h
      have c3' : Lx.digitB (Lx.byt s i) = false := by simpa using c3
      by_cases c4 : Lx.byt s i = 34
      · rw [if_pos c4] at h
        by_cases c2 : Lx.endP Lx.textB s (i + 1) < s.size ∧ Lx.byt s (Lx.endP Lx.textB s (i + 1)) = 34
        · rw [if_pos c2] at h; cases h
        · exact tokQuote_no s i _ w hs hi c1' c3' c4 rfl c2
      · rw [if_neg c4] at h
        by_cases c5 : Lx.twoB s i = true
        · rw [if_pos c5] at h; cases h
        · rw [if_neg c5] at h
          by_cases c6 : Lx.signB (Lx.byt s i) = true
          · rw [if_pos c6] at h; cases h
          · exact tokNone s i w hs hi c1' c3' c4 (by simpa using c5) (by simpa using c6)

end Go.Proofs.YtihpdngpedgjhaaDoor

/-
  The walk of spec.l02Token: the word that begins at a place, and the place behind it, or -1.
-/
import Derived.Test.YtihpdngpedgjhaaDoorReadT
namespace Go.Proofs.YtihpdngpedgjhaaDoor
open Go.RowKit

theorem ret_tokS {B : Nat} {w w0 : World} {tmps : Array Value} {b E : Nat} {t : Lx.Tok} (hp : tmps[4]?.getD undef = .pointer (some ⟨b, 0, none⟩)) (hE : tmps[5]?.getD undef = .int .i64 (E : Nat))
    (h : ∀ j, j < 4 → (w0.cell? ⟨b, j, none⟩).isSome = true) (hBe : Below B w w0) (hb : B ≤ b) :
    bodyPost Tryd.prog Tryd.f20 (fun e w' => e = .returned (.tuple #[tokV t, .int .i64 (E : Nat)]) ∧ Below B w w') .ret { tmps := tmps, defers := [] }
      ((((w0.setCell ⟨b, 0, none⟩ (.int .i64 (t.kind : Nat))).setCell ⟨b, 1, none⟩ (.string t.text)).setCell ⟨b, 2, none⟩ (.int .i64 (t.n : Nat))).setCell ⟨b, 3, none⟩ (.int .i64 (t.line : Nat))) := by
  obtain ⟨h0, h1, h2, h3⟩ := put4 (x0 := .int .i64 (t.kind : Nat)) (x1 := .string t.text) (x2 := .int .i64 (t.n : Nat)) (x3 := .int .i64 (t.line : Nat)) h
  have hB4 := (((hBe.setCell (p := ⟨b, 0, none⟩) hb (.int .i64 (t.kind : Nat))).setCell (p := ⟨b, 1, none⟩) hb (.string t.text)).setCell (p := ⟨b, 2, none⟩) hb (.int .i64 (t.n : Nat))).setCell (p := ⟨b, 3, none⟩) hb (.int .i64 (t.line : Nat))
  generalize (((w0.setCell ⟨b, 0, none⟩ (.int .i64 (t.kind : Nat))).setCell ⟨b, 1, none⟩ (.string t.text)).setCell ⟨b, 2, none⟩ (.int .i64 (t.n : Nat))).setCell ⟨b, 3, none⟩ (.int .i64 (t.line : Nat)) = W at *
  refine bodyPost_ret (v := .tuple #[tokV t, .int .i64 (E : Nat)]) ?_ rfl ⟨rfl, hB4⟩
  simp [results, Tryd.results20, go_sem, hp, hE, h0, h1, h2, h3, tokV]

set_option maxHeartbeats 1600000 in
set_option maxRecDepth 100000 in
theorem tokLetter (s : ByteArray) (i E : Nat) (w : World) (hs : s.size ≤ 3000) (hi : i < s.size) (hL : Lx.letterB (Lx.byt s i) = true) (hE : Lx.endP Lx.alB s i = E) (h12 : E - i ≤ 12) :
    Calls Tryd.prog 20 #[.string s, .int .i64 i] w fun e w' => e = .returned (.tuple #[tokV ⟨if Lx.isWordP (s.extract i E) then 4 else 0, s.extract i E, 0, 0⟩, .int .i64 E]) ∧ Below w.heap.size w w' := by
  have hbe := Lx.byt_eq s i hi
  have HL : Hid (∀ wx : World, Calls Tryd.prog 12 #[.int .u8 (Lx.byt s i : Nat)] wx fun e w' => e = .returned (.bool true) ∧ wx = w') := fun wx => by
    have := specLetter _ wx (Lx.byt_lt s i)
    rw [hL] at this
    exact this
  have hge := Lx.endP_ge Lx.alB s i
  have hle := Lx.endP_le Lx.alB s i (by omega)
  rw [hE] at hge hle
  have hsl := run_cut s i E hge hle
  have HW : Hid (∀ wx : World, Calls Tryd.prog 15 #[.string (s.extract i E)] wx fun e w' => e = .returned (.bool (Lx.isWordP (s.extract i E))) ∧ Below wx.heap.size wx w') := fun wx => specIsWord _ wx
  generalize s.extract i E = T at *
  generalize Lx.isWordP T = r at *
  have HE0 : Hid (Lx.endP Lx.alB s i = E) := hE
  clear hL hE
  go_enter Tryd.func20, Tryd.ntmps20
  go_wp2_with fail
  refine (HL.out _).mono ?_
  rintro e w1 ⟨rfl, rfl⟩
  go_wp2
  go_loop [6] (fun a => ∃ k : Nat, i ≤ k ∧ k ≤ s.size ∧ Lx.endP Lx.alB s i = Lx.endP Lx.alB s k ∧ a = .int .i64 k) (fun a => s.size - (intOf a).toNat)
  case atStart => exact ⟨i, Nat.le_refl _, by omega, rfl, rfl⟩
  case round =>
    obtain ⟨k, hk0, hk, he, rfl⟩ := hrel
    have HE : Hid (Lx.endP Lx.alB s i = Lx.endP Lx.alB s k) := he
    clear he
    by_cases hlt : k < s.size
    · have hbk := Lx.byt_eq s k hlt
      have HLk : Hid (∀ wx : World, Calls Tryd.prog 12 #[.int .u8 (Lx.byt s k : Nat)] wx fun e w' => e = .returned (.bool (Lx.letterB (Lx.byt s k))) ∧ wx = w') := fun wx => specLetter _ wx (Lx.byt_lt s k)
      have HDk : Hid (∀ wx : World, Calls Tryd.prog 13 #[.int .u8 (Lx.byt s k : Nat)] wx fun e w' => e = .returned (.bool (Lx.digitB (Lx.byt s k))) ∧ wx = w') := fun wx => specDigit _ wx (Lx.byt_lt s k)
      have HY : Hid (Lx.letterB (Lx.byt s k) = true ∨ Lx.digitB (Lx.byt s k) = true → Lx.endP Lx.alB s k = Lx.endP Lx.alB s (k + 1)) := fun h => Lx.endP_go hlt (by rcases h with h | h <;> simp [Lx.alB, h])
      have HN : Hid (Lx.letterB (Lx.byt s k) = false → Lx.digitB (Lx.byt s k) = false → Lx.endP Lx.alB s k = k) := fun h1 h2 => Lx.endP_no (by simp [Lx.alB, h1, h2])
      generalize Lx.letterB (Lx.byt s k) = L at *
      generalize Lx.digitB (Lx.byt s k) = D at *
      cases L with
      | true =>
        have HX : Hid (Lx.endP Lx.alB s i = Lx.endP Lx.alB s (k + 1)) := HE.out.trans (HY.out (.inl rfl))
        clear HY HN
        go_wp2_with (first | (go_at_call 12; refine (HLk.out _).mono ?_; rintro e w1 ⟨rfl, rfl⟩) | (go_at_call 13; refine (HDk.out _).mono ?_; rintro e w1 ⟨rfl, rfl⟩))
        go_round
        case rel => exact ⟨k + 1, by omega, by omega, HX.out, by go_num⟩
        case measure => simp [intOf]; omega
      | false =>
        cases D with
        | true =>
          have HX : Hid (Lx.endP Lx.alB s i = Lx.endP Lx.alB s (k + 1)) := HE.out.trans (HY.out (.inr rfl))
          clear HY HN
          go_wp2_with (first | (go_at_call 12; refine (HLk.out _).mono ?_; rintro e w1 ⟨rfl, rfl⟩) | (go_at_call 13; refine (HDk.out _).mono ?_; rintro e w1 ⟨rfl, rfl⟩))
          go_round
          case rel => exact ⟨k + 1, by omega, by omega, HX.out, by go_num⟩
          case measure => simp [intOf]; omega
        | false =>
          have hkE : k = E := by rw [← HE0.out, HE.out]; exact (HN.out rfl rfl).symm
          clear HY HN
          subst hkE
          have g12 : ¬ (12 : Int) < (k : Int) - i := by omega
          cases r with
          | true =>
            go_wp2_with (first | (go_at_call 12; refine (HLk.out _).mono ?_; rintro e w1 ⟨rfl, rfl⟩) | (go_at_call 13; refine (HDk.out _).mono ?_; rintro e w1 ⟨rfl, rfl⟩))
            refine (HW.out _).mono ?_
            rintro e w2 ⟨rfl, hb2⟩
            obtain ⟨bc, bf⟩ := bcell hb2
            have hsz : w.heap.size + 1 < w2.heap.size := by have := hb2.size; simp at this; omega
            go_wp2
            refine ret_tokS (t := ⟨4, T, 0, 0⟩) (b := w.heap.size) (E := k) rfl rfl ?_ ?_ (Nat.le_refl _)
            · intro j hj
              rw [World.cell?_setCell_other _ _ _ _ (by simp)]
              exact old4 (by rfl) hb2 j hj
            · exact ((((Below.refl _ _).alloc (Nat.le_refl _) _).alloc (by simp) _).trans (hb2.mono (by simp; omega))).setCell (by simp) _
          | false =>
            go_wp2_with (first | (go_at_call 12; refine (HLk.out _).mono ?_; rintro e w1 ⟨rfl, rfl⟩) | (go_at_call 13; refine (HDk.out _).mono ?_; rintro e w1 ⟨rfl, rfl⟩))
            refine (HW.out _).mono ?_
            rintro e w2 ⟨rfl, hb2⟩
            obtain ⟨bc, bf⟩ := bcell hb2
            have hsz : w.heap.size + 1 < w2.heap.size := by have := hb2.size; simp at this; omega
            go_wp2
            refine ret_tokS (t := ⟨0, T, 0, 0⟩) (b := w.heap.size) (E := k) rfl rfl ?_ ?_ (Nat.le_refl _)
            · exact old4 (by rfl) hb2
            · exact (((Below.refl _ _).alloc (Nat.le_refl _) _).alloc (by simp) _).trans (hb2.mono (by simp; omega))
    · have hkE : k = E := by rw [← HE0.out, HE.out]; exact (Lx.endP_out (by omega)).symm
      subst hkE
      have g12 : ¬ (12 : Int) < (k : Int) - i := by omega
      cases r with
      | true =>
        go_wp2_with fail
        refine (HW.out _).mono ?_
        rintro e w2 ⟨rfl, hb2⟩
        obtain ⟨bc, bf⟩ := bcell hb2
        have hsz : w.heap.size + 1 < w2.heap.size := by have := hb2.size; simp at this; omega
        go_wp2
        refine ret_tokS (t := ⟨4, T, 0, 0⟩) (b := w.heap.size) (E := k) rfl rfl ?_ ?_ (Nat.le_refl _)
        · intro j hj
          rw [World.cell?_setCell_other _ _ _ _ (by simp)]
          exact old4 (by rfl) hb2 j hj
        · exact ((((Below.refl _ _).alloc (Nat.le_refl _) _).alloc (by simp) _).trans (hb2.mono (by simp; omega))).setCell (by simp) _
      | false =>
        go_wp2_with fail
        refine (HW.out _).mono ?_
        rintro e w2 ⟨rfl, hb2⟩
        obtain ⟨bc, bf⟩ := bcell hb2
        have hsz : w.heap.size + 1 < w2.heap.size := by have := hb2.size; simp at this; omega
        go_wp2
        refine ret_tokS (t := ⟨0, T, 0, 0⟩) (b := w.heap.size) (E := k) rfl rfl ?_ ?_ (Nat.le_refl _)
        · exact old4 (by rfl) hb2
        · exact (((Below.refl _ _).alloc (Nat.le_refl _) _).alloc (by simp) _).trans (hb2.mono (by simp; omega))

set_option maxHeartbeats 1600000 in
set_option maxRecDepth 100000 in
theorem tokLetter_no (s : ByteArray) (i E : Nat) (w : World) (hs : s.size ≤ 3000) (hi : i < s.size) (hL : Lx.letterB (Lx.byt s i) = true) (hE : Lx.endP Lx.alB s i = E) (h12 : 12 < E - i) :
    Calls Tryd.prog 20 #[.string s, .int .i64 i] w fun e w' => e = .returned (.tuple #[tokV ⟨0, ByteArray.empty, 0, 0⟩, .int .i64 (-1)]) ∧ Below w.heap.size w w' := by
  have hbe := Lx.byt_eq s i hi
  have HL : Hid (∀ wx : World, Calls Tryd.prog 12 #[.int .u8 (Lx.byt s i : Nat)] wx fun e w' => e = .returned (.bool true) ∧ wx = w') := fun wx => by
    have := specLetter _ wx (Lx.byt_lt s i)
    rw [hL] at this
    exact this
  have HE0 : Hid (Lx.endP Lx.alB s i = E) := hE
  clear hL hE
  go_enter Tryd.func20, Tryd.ntmps20
  go_wp2_with fail
  refine (HL.out _).mono ?_
  rintro e w1 ⟨rfl, rfl⟩
  go_wp2
  go_loop [6] (fun a => ∃ k : Nat, i ≤ k ∧ k ≤ s.size ∧ Lx.endP Lx.alB s i = Lx.endP Lx.alB s k ∧ a = .int .i64 k) (fun a => s.size - (intOf a).toNat)
  case atStart => exact ⟨i, Nat.le_refl _, by omega, rfl, rfl⟩
  case round =>
    obtain ⟨k, hk0, hk, he, rfl⟩ := hrel
    have HE : Hid (Lx.endP Lx.alB s i = Lx.endP Lx.alB s k) := he
    clear he
    by_cases hlt : k < s.size
    · have hbk := Lx.byt_eq s k hlt
      have HLk : Hid (∀ wx : World, Calls Tryd.prog 12 #[.int .u8 (Lx.byt s k : Nat)] wx fun e w' => e = .returned (.bool (Lx.letterB (Lx.byt s k))) ∧ wx = w') := fun wx => specLetter _ wx (Lx.byt_lt s k)
      have HDk : Hid (∀ wx : World, Calls Tryd.prog 13 #[.int .u8 (Lx.byt s k : Nat)] wx fun e w' => e = .returned (.bool (Lx.digitB (Lx.byt s k))) ∧ wx = w') := fun wx => specDigit _ wx (Lx.byt_lt s k)
      have HY : Hid (Lx.letterB (Lx.byt s k) = true ∨ Lx.digitB (Lx.byt s k) = true → Lx.endP Lx.alB s k = Lx.endP Lx.alB s (k + 1)) := fun h => Lx.endP_go hlt (by rcases h with h | h <;> simp [Lx.alB, h])
      have HN : Hid (Lx.letterB (Lx.byt s k) = false → Lx.digitB (Lx.byt s k) = false → Lx.endP Lx.alB s k = k) := fun h1 h2 => Lx.endP_no (by simp [Lx.alB, h1, h2])
      generalize Lx.letterB (Lx.byt s k) = L at *
      generalize Lx.digitB (Lx.byt s k) = D at *
      cases L with
      | true =>
        have HX : Hid (Lx.endP Lx.alB s i = Lx.endP Lx.alB s (k + 1)) := HE.out.trans (HY.out (.inl rfl))
        clear HY HN
        go_wp2_with (first | (go_at_call 12; refine (HLk.out _).mono ?_; rintro e w1 ⟨rfl, rfl⟩) | (go_at_call 13; refine (HDk.out _).mono ?_; rintro e w1 ⟨rfl, rfl⟩))
        go_round
        case rel => exact ⟨k + 1, by omega, by omega, HX.out, by go_num⟩
        case measure => simp [intOf]; omega
      | false =>
        cases D with
        | true =>
          have HX : Hid (Lx.endP Lx.alB s i = Lx.endP Lx.alB s (k + 1)) := HE.out.trans (HY.out (.inr rfl))
          clear HY HN
          go_wp2_with (first | (go_at_call 12; refine (HLk.out _).mono ?_; rintro e w1 ⟨rfl, rfl⟩) | (go_at_call 13; refine (HDk.out _).mono ?_; rintro e w1 ⟨rfl, rfl⟩))
          go_round
          case rel => exact ⟨k + 1, by omega, by omega, HX.out, by go_num⟩
          case measure => simp [intOf]; omega
        | false =>
          have hkE : k = E := by rw [← HE0.out, HE.out]; exact (HN.out rfl rfl).symm
          clear HY HN
          subst hkE
          have g12 : (12 : Int) < (k : Int) - i := by omega
          go_wp2_with (first | (go_at_call 12; refine (HLk.out _).mono ?_; rintro e w1 ⟨rfl, rfl⟩) | (go_at_call 13; refine (HDk.out _).mono ?_; rintro e w1 ⟨rfl, rfl⟩))
          refine bodyPost_ret (v := .tuple #[tokV ⟨0, ByteArray.empty, 0, 0⟩, .int .i64 (-1)]) ?_ rfl ⟨rfl, ?_⟩
          · simp [results, Tryd.results20, go_sem, tokV]
            rfl
          · exact (Below.refl _ _).alloc (Nat.le_refl _) _
    · have hkE : k = E := by rw [← HE0.out, HE.out]; exact (Lx.endP_out (by omega)).symm
      subst hkE
      have g12 : (12 : Int) < (k : Int) - i := by omega
      go_wp2
      refine bodyPost_ret (v := .tuple #[tokV ⟨0, ByteArray.empty, 0, 0⟩, .int .i64 (-1)]) ?_ rfl ⟨rfl, ?_⟩
      · simp [results, Tryd.results20, go_sem, tokV]
        rfl
      · exact (Below.refl _ _).alloc (Nat.le_refl _) _

theorem two_list (s : ByteArray) (i : Nat) (a b : UInt8) (h : i + 1 < s.size) : ((s.extract i (i + 2)).toList == [a, b]) = decide (Lx.byt s i = a.toNat ∧ Lx.byt s (i + 1) = b.toNat) := by
  have hz : (s.extract i (i + 2)).size = 2 := by simp; omega
  have h1 := toList2 (t := s.extract i (i + 2)) (a := a) (b := b) (by omega)
  have e : (s.extract i (i + 2)).extract 0 2 = s.extract i (i + 2) := by
    rw [ByteArray.extract_extract]
    congr 1
    omega
  rw [e] at h1
  rw [h1, byt_extract s i (i + 2) 0 (by omega) (by omega), byt_extract s i (i + 2) 1 (by omega) (by omega)]
  rfl

set_option maxHeartbeats 1600000 in
set_option maxRecDepth 100000 in
theorem tokTwo (s : ByteArray) (i : Nat) (w : World) (hs : s.size ≤ 3000) (hi : i < s.size) (hL : Lx.letterB (Lx.byt s i) = false) (hD : Lx.digitB (Lx.byt s i) = false) (hQ : ¬ Lx.byt s i = 34) (h2 : Lx.twoB s i = true) :
    Calls Tryd.prog 20 #[.string s, .int .i64 i] w fun e w' => e = .returned (.tuple #[tokV ⟨3, s.extract i (i + 2), 0, 0⟩, .int .i64 ((i + 2 : Nat) : Int)]) ∧ Below w.heap.size w w' := by
  have hlt : i + 1 < s.size := by simp only [Lx.twoB, decide_eq_true_eq] at h2; exact h2.1
  have q1 := two_list s i 45 62 hlt
  have q2 := two_list s i 61 61 hlt
  have hq : (decide (Lx.byt s i = (45 : UInt8).toNat ∧ Lx.byt s (i + 1) = (62 : UInt8).toNat) || decide (Lx.byt s i = (61 : UInt8).toNat ∧ Lx.byt s (i + 1) = (61 : UInt8).toNat)) = true := by
    simp only [Lx.twoB, decide_eq_true_eq] at h2
    have e45 : (45 : UInt8).toNat = 45 := rfl
    have e62 : (62 : UInt8).toNat = 62 := rfl
    have e61 : (61 : UInt8).toNat = 61 := rfl
    rw [e45, e62, e61]
    simp
    omega
  rw [← q1, ← q2] at hq
  have hbe := Lx.byt_eq s i hi
  have HL : Hid (∀ wx : World, Calls Tryd.prog 12 #[.int .u8 (Lx.byt s i : Nat)] wx fun e w' => e = .returned (.bool false) ∧ wx = w') := fun wx => by
    have := specLetter _ wx (Lx.byt_lt s i)
    rw [hL] at this
    exact this
  have HD : Hid (∀ wx : World, Calls Tryd.prog 13 #[.int .u8 (Lx.byt s i : Nat)] wx fun e w' => e = .returned (.bool false) ∧ wx = w') := fun wx => by
    have := specDigit _ wx (Lx.byt_lt s i)
    rw [hD] at this
    exact this
  have g34 : ((Lx.byt s i : Int) == 34) = false := by simp; omega
  have hsl : ∀ wx : World, (Instr.slice 9 (.string s) (some (.int .i64 (i : Int))) (some (.int .i64 ((i : Int) + 2))) none).run Tryd.prog wx = .ok (.string (s.extract i (i + 2))) wx := fun wx => run_cut s i (i + 2) (by omega) (by omega) wx
  have hlt' : (i : Int) + 1 < s.size := by omega
  clear hL hD hQ h2 q1 q2
  generalize s.extract i (i + 2) = T at *
  have key : (T.toList == [45, 62]) = true ∨ ((T.toList == [45, 62]) = false ∧ (T.toList == [61, 61]) = true) := by
    cases h : (T.toList == [45, 62])
    · right; rw [h] at hq; exact ⟨rfl, by simpa using hq⟩
    · left; rfl
  clear hq
  rcases key with k1 | ⟨k1, k2⟩
  · go_enter Tryd.func20, Tryd.ntmps20
    go_wp2_with fail
    refine (HL.out _).mono ?_
    rintro e w1 ⟨rfl, rfl⟩
    go_wp2_with fail
    refine (HD.out _).mono ?_
    rintro e w1 ⟨rfl, rfl⟩
    go_wp2
    refine bodyPost_ret (v := .tuple #[tokV ⟨3, T, 0, 0⟩, .int .i64 ((i + 2 : Nat) : Int)]) ?_ rfl ⟨rfl, ?_⟩
    · simp [results, Tryd.results20, go_sem, tokV]
    · exact (Below.refl _ _).alloc (Nat.le_refl _) _
  · go_enter Tryd.func20, Tryd.ntmps20
    go_wp2_with fail
    refine (HL.out _).mono ?_
    rintro e w1 ⟨rfl, rfl⟩
    go_wp2_with fail
    refine (HD.out _).mono ?_
    rintro e w1 ⟨rfl, rfl⟩
    go_wp2
    refine bodyPost_ret (v := .tuple #[tokV ⟨3, T, 0, 0⟩, .int .i64 ((i + 2 : Nat) : Int)]) ?_ rfl ⟨rfl, ?_⟩
    · simp [results, Tryd.results20, go_sem, tokV]
    · exact (Below.refl _ _).alloc (Nat.le_refl _) _

def signsL : List ByteArray := [⟨#[43]⟩, ⟨#[61]⟩, ⟨#[58]⟩, ⟨#[44]⟩, ⟨#[46]⟩, ⟨#[124]⟩, ⟨#[40]⟩, ⟨#[41]⟩, ⟨#[123]⟩, ⟨#[125]⟩]
theorem one_byte (s : ByteArray) (i : Nat) (h : i < s.size) : s.extract i (i + 1) = ⟨#[s[i]]⟩ := by
  apply ByteArray.ext
  apply Array.ext
  · simp
    have : s.data.size = s.size := rfl
    omega
  · intro j h1 h2
    simp at h2
    subst h2
    simp [ByteArray.getElem_eq_getElem_data]
theorem has_sign (s : ByteArray) (i : Nat) (h : i < s.size) : hasP signsL (s.extract i (i + 1)) = Lx.signB (Lx.byt s i) := by
  rw [one_byte s i h, ← Lx.byt_eq s i h]
  generalize s[i] = b
  have e : ∀ k : UInt8, decide ((⟨#[k]⟩ : ByteArray).data = (⟨#[b]⟩ : ByteArray).data) = decide (b.toNat = k.toNat) := fun k => by
    rw [Bool.eq_iff_iff]
    simp [← UInt8.toNat_inj]
    exact eq_comm
  unfold hasP signsL Lx.signB
  simp only [List.any_cons, List.any_nil, e]
  rw [Bool.eq_iff_iff]
  simp

set_option maxHeartbeats 1600000 in
set_option maxRecDepth 100000 in
theorem tokOne (s : ByteArray) (i : Nat) (w : World) (hs : s.size ≤ 3000) (hi : i < s.size) (hL : Lx.letterB (Lx.byt s i) = false) (hD : Lx.digitB (Lx.byt s i) = false) (hQ : ¬ Lx.byt s i = 34) (h2 : Lx.twoB s i = false) (hS : Lx.signB (Lx.byt s i) = true) :
    Calls Tryd.prog 20 #[.string s, .int .i64 i] w fun e w' => e = .returned (.tuple #[tokV ⟨3, s.extract i (i + 1), 0, 0⟩, .int .i64 ((i + 1 : Nat) : Int)]) ∧ Below w.heap.size w w' := by
  have hbe := Lx.byt_eq s i hi
  have HL : Hid (∀ wx : World, Calls Tryd.prog 12 #[.int .u8 (Lx.byt s i : Nat)] wx fun e w' => e = .returned (.bool false) ∧ wx = w') := fun wx => by
    have := specLetter _ wx (Lx.byt_lt s i)
    rw [hL] at this
    exact this
  have HD : Hid (∀ wx : World, Calls Tryd.prog 13 #[.int .u8 (Lx.byt s i : Nat)] wx fun e w' => e = .returned (.bool false) ∧ wx = w') := fun wx => by
    have := specDigit _ wx (Lx.byt_lt s i)
    rw [hD] at this
    exact this
  have g34 : ((Lx.byt s i : Int) == 34) = false := by simp; omega
  have hsl1 : ∀ wx : World, (Instr.slice 9 (.string s) (some (.int .i64 (i : Int))) (some (.int .i64 ((i : Int) + 1))) none).run Tryd.prog wx = .ok (.string (s.extract i (i + 1))) wx := fun wx => run_cut s i (i + 1) (by omega) (by omega) wx
  have HH : Hid (Calls Tryd.prog 26 #[.slice (some ⟨w.heap.size + 1, 0, none⟩) 10 10, .string (s.extract i (i + 1))] ((w.alloc (.cells #[.int .i64 0, .string ⟨#[]⟩, .int .i64 0, .int .i64 0] 35)).alloc (.cells (strV signsL).toArray 9)) fun e w' => e = .returned (.bool true) ∧ ((w.alloc (.cells #[.int .i64 0, .string ⟨#[]⟩, .int .i64 0, .int .i64 0] 35)).alloc (.cells (strV signsL).toArray 9)) = w') := by
    have hz : (w.alloc (.cells #[.int .i64 0, .string ⟨#[]⟩, .int .i64 0, .int .i64 0] 35)).heap.size = w.heap.size + 1 := by simp
    have hT : Texts ((w.alloc (.cells #[.int .i64 0, .string ⟨#[]⟩, .int .i64 0, .int .i64 0] 35)).alloc (.cells (strV signsL).toArray 9)) (.slice (some ⟨(w.alloc (.cells #[.int .i64 0, .string ⟨#[]⟩, .int .i64 0, .int .i64 0] 35)).heap.size, 0, none⟩) 10 10) signsL :=
      Texts.own (B := (w.alloc (.cells #[.int .i64 0, .string ⟨#[]⟩, .int .i64 0, .int .i64 0] 35)).heap.size) (World.ownsRow_lit (base := (w.alloc (.cells #[.int .i64 0, .string ⟨#[]⟩, .int .i64 0, .int .i64 0] 35)).heap.size) (e := 9) (size := 1) (w.alloc (.cells #[.int .i64 0, .string ⟨#[]⟩, .int .i64 0, .int .i64 0] 35)) (strV signsL).toArray 10 (Nat.le_refl _) (by decide) rfl)
    have := specHas _ _ (s.extract i (i + 1)) _ hT (by decide)
    rw [has_sign s i hi, hS, hz] at this
    exact this
  simp only [strV, signsL, List.map_cons, List.map_nil] at HH
  by_cases hlt : i + 1 < s.size
  · have q1 := two_list s i 45 62 hlt
    have q2 := two_list s i 61 61 hlt
    have e45 : (45 : UInt8).toNat = 45 := rfl
    have e62 : (62 : UInt8).toNat = 62 := rfl
    have e61 : (61 : UInt8).toNat = 61 := rfl
    rw [e45, e62] at q1
    rw [e61] at q2
    simp only [Lx.twoB, decide_eq_false_iff_not] at h2
    rw [decide_eq_false (by omega)] at q1 q2
    have hsl : ∀ wx : World, (Instr.slice 9 (.string s) (some (.int .i64 (i : Int))) (some (.int .i64 ((i : Int) + 2))) none).run Tryd.prog wx = .ok (.string (s.extract i (i + 2))) wx := fun wx => run_cut s i (i + 2) (by omega) (by omega) wx
    have hlt' : (i : Int) + 1 < s.size := by omega
    clear hL hD hQ h2 hS e45 e62 e61
    generalize s.extract i (i + 2) = T2 at *
    generalize s.extract i (i + 1) = T at *
    go_enter Tryd.func20, Tryd.ntmps20
    go_wp2_with fail
    refine (HL.out _).mono ?_
    rintro e w1 ⟨rfl, rfl⟩
    go_wp2_with fail
    refine (HD.out _).mono ?_
    rintro e w1 ⟨rfl, rfl⟩
    go_wp2_with fail
    refine HH.out.mono ?_
    rintro e w1 ⟨rfl, rfl⟩
    go_wp2
    refine bodyPost_ret (v := .tuple #[tokV ⟨3, T, 0, 0⟩, .int .i64 ((i + 1 : Nat) : Int)]) ?_ rfl ⟨rfl, ?_⟩
    · simp [results, Tryd.results20, go_sem, tokV]
    · exact ((Below.refl _ _).alloc (Nat.le_refl _) _).alloc (by simp) _
  · have hlt' : ¬ (i : Int) + 1 < s.size := by omega
    clear hL hD hQ h2 hS
    generalize s.extract i (i + 1) = T at *
    go_enter Tryd.func20, Tryd.ntmps20
    go_wp2_with fail
    refine (HL.out _).mono ?_
    rintro e w1 ⟨rfl, rfl⟩
    go_wp2_with fail
    refine (HD.out _).mono ?_
    rintro e w1 ⟨rfl, rfl⟩
    go_wp2_with fail
    refine HH.out.mono ?_
    rintro e w1 ⟨rfl, rfl⟩
    go_wp2
    refine bodyPost_ret (v := .tuple #[tokV ⟨3, T, 0, 0⟩, .int .i64 ((i + 1 : Nat) : Int)]) ?_ rfl ⟨rfl, ?_⟩
    · simp [results, Tryd.results20, go_sem, tokV]
    · exact ((Below.refl _ _).alloc (Nat.le_refl _) _).alloc (by simp) _

set_option maxHeartbeats 1600000 in
set_option maxRecDepth 100000 in
theorem tokNone (s : ByteArray) (i : Nat) (w : World) (hs : s.size ≤ 3000) (hi : i < s.size) (hL : Lx.letterB (Lx.byt s i) = false) (hD : Lx.digitB (Lx.byt s i) = false) (hQ : ¬ Lx.byt s i = 34) (h2 : Lx.twoB s i = false) (hS : Lx.signB (Lx.byt s i) = false) :
    Calls Tryd.prog 20 #[.string s, .int .i64 i] w fun e w' => e = .returned (.tuple #[tokV ⟨0, ByteArray.empty, 0, 0⟩, .int .i64 (-1)]) ∧ Below w.heap.size w w' := by
  have hbe := Lx.byt_eq s i hi
  have HL : Hid (∀ wx : World, Calls Tryd.prog 12 #[.int .u8 (Lx.byt s i : Nat)] wx fun e w' => e = .returned (.bool false) ∧ wx = w') := fun wx => by
    have := specLetter _ wx (Lx.byt_lt s i)
    rw [hL] at this
    exact this
  have HD : Hid (∀ wx : World, Calls Tryd.prog 13 #[.int .u8 (Lx.byt s i : Nat)] wx fun e w' => e = .returned (.bool false) ∧ wx = w') := fun wx => by
    have := specDigit _ wx (Lx.byt_lt s i)
    rw [hD] at this
    exact this
  have g34 : ((Lx.byt s i : Int) == 34) = false := by simp; omega
  have hsl1 : ∀ wx : World, (Instr.slice 9 (.string s) (some (.int .i64 (i : Int))) (some (.int .i64 ((i : Int) + 1))) none).run Tryd.prog wx = .ok (.string (s.extract i (i + 1))) wx := fun wx => run_cut s i (i + 1) (by omega) (by omega) wx
  have HH : Hid (Calls Tryd.prog 26 #[.slice (some ⟨w.heap.size + 1, 0, none⟩) 10 10, .string (s.extract i (i + 1))] ((w.alloc (.cells #[.int .i64 0, .string ⟨#[]⟩, .int .i64 0, .int .i64 0] 35)).alloc (.cells (strV signsL).toArray 9)) fun e w' => e = .returned (.bool false) ∧ ((w.alloc (.cells #[.int .i64 0, .string ⟨#[]⟩, .int .i64 0, .int .i64 0] 35)).alloc (.cells (strV signsL).toArray 9)) = w') := by
    have hz : (w.alloc (.cells #[.int .i64 0, .string ⟨#[]⟩, .int .i64 0, .int .i64 0] 35)).heap.size = w.heap.size + 1 := by simp
    have hT : Texts ((w.alloc (.cells #[.int .i64 0, .string ⟨#[]⟩, .int .i64 0, .int .i64 0] 35)).alloc (.cells (strV signsL).toArray 9)) (.slice (some ⟨(w.alloc (.cells #[.int .i64 0, .string ⟨#[]⟩, .int .i64 0, .int .i64 0] 35)).heap.size, 0, none⟩) 10 10) signsL :=
      Texts.own (B := (w.alloc (.cells #[.int .i64 0, .string ⟨#[]⟩, .int .i64 0, .int .i64 0] 35)).heap.size) (World.ownsRow_lit (base := (w.alloc (.cells #[.int .i64 0, .string ⟨#[]⟩, .int .i64 0, .int .i64 0] 35)).heap.size) (e := 9) (size := 1) (w.alloc (.cells #[.int .i64 0, .string ⟨#[]⟩, .int .i64 0, .int .i64 0] 35)) (strV signsL).toArray 10 (Nat.le_refl _) (by decide) rfl)
    have := specHas _ _ (s.extract i (i + 1)) _ hT (by decide)
    rw [has_sign s i hi, hS, hz] at this
    exact this
  simp only [strV, signsL, List.map_cons, List.map_nil] at HH
  by_cases hlt : i + 1 < s.size
  · have q1 := two_list s i 45 62 hlt
    have q2 := two_list s i 61 61 hlt
    have e45 : (45 : UInt8).toNat = 45 := rfl
    have e62 : (62 : UInt8).toNat = 62 := rfl
    have e61 : (61 : UInt8).toNat = 61 := rfl
    rw [e45, e62] at q1
    rw [e61] at q2
    simp only [Lx.twoB, decide_eq_false_iff_not] at h2
    rw [decide_eq_false (by omega)] at q1 q2
    have hsl : ∀ wx : World, (Instr.slice 9 (.string s) (some (.int .i64 (i : Int))) (some (.int .i64 ((i : Int) + 2))) none).run Tryd.prog wx = .ok (.string (s.extract i (i + 2))) wx := fun wx => run_cut s i (i + 2) (by omega) (by omega) wx
    have hlt' : (i : Int) + 1 < s.size := by omega
    clear hL hD hQ h2 hS e45 e62 e61
    generalize s.extract i (i + 2) = T2 at *
    generalize s.extract i (i + 1) = T at *
    go_enter Tryd.func20, Tryd.ntmps20
    go_wp2_with fail
    refine (HL.out _).mono ?_
    rintro e w1 ⟨rfl, rfl⟩
    go_wp2_with fail
    refine (HD.out _).mono ?_
    rintro e w1 ⟨rfl, rfl⟩
    go_wp2_with fail
    refine HH.out.mono ?_
    rintro e w1 ⟨rfl, rfl⟩
    go_wp2
    refine bodyPost_ret (v := .tuple #[tokV ⟨0, ByteArray.empty, 0, 0⟩, .int .i64 (-1)]) ?_ rfl ⟨rfl, ?_⟩
    · simp [results, Tryd.results20, go_sem, tokV]
      rfl
    · exact ((Below.refl _ _).alloc (Nat.le_refl _) _).alloc (by simp) _
  · have hlt' : ¬ (i : Int) + 1 < s.size := by omega
    clear hL hD hQ h2 hS
    generalize s.extract i (i + 1) = T at *
    go_enter Tryd.func20, Tryd.ntmps20
    go_wp2_with fail
    refine (HL.out _).mono ?_
    rintro e w1 ⟨rfl, rfl⟩
    go_wp2_with fail
    refine (HD.out _).mono ?_
    rintro e w1 ⟨rfl, rfl⟩
    go_wp2_with fail
    refine HH.out.mono ?_
    rintro e w1 ⟨rfl, rfl⟩
    go_wp2
    refine bodyPost_ret (v := .tuple #[tokV ⟨0, ByteArray.empty, 0, 0⟩, .int .i64 (-1)]) ?_ rfl ⟨rfl, ?_⟩
    · simp [results, Tryd.results20, go_sem, tokV]
      rfl
    · exact ((Below.refl _ _).alloc (Nat.le_refl _) _).alloc (by simp) _

end Go.Proofs.YtihpdngpedgjhaaDoor

/-
  The walks of impl's small readers: nameKind, refuseLonger, numberOf, quoteEnd, signEnd. Where a word is none they panic with an error that bears the line.
-/
import Derived.Test.YtihpdngpedgjhaaDoorNameW
import Derived.Test.YtihpdngpedgjhaaDoorClassW
namespace Go.Proofs.YtihpdngpedgjhaaDoor
open Go.RowKit

/-- what a reader panics with -/
def noWordP (line : Nat) : Value := .iface 49 (.agg #[.int .i64 (line : Nat)])
def noWordE (line : Nat) : Ending := .panicked [{ v := noWordP line, recovered := false }]

theorem implNameKind (s : ByteArray) (w : World) :
    Calls Tryd.prog 35 #[.string s] w fun e w' => e = .returned (.int .i64 (if Lx.isWordP s then 4 else 0 : Nat)) ∧ w = w' := by
  have HI : Hid (∀ wx : World, Calls Tryd.prog 16 #[.string s] wx fun e w' => e = .returned (.bool (Lx.isWordP s)) ∧ wx = w') := fun wx => implIsWord s wx
  generalize Lx.isWordP s = r at *
  cases r with
  | true =>
    go_enter Tryd.func35, Tryd.ntmps35
    go_wp2_with (go_at_call 16; refine (HI.out _).mono ?_; rintro e w1 ⟨rfl, rfl⟩)
    go_ret
    exact ⟨rfl, rfl⟩
  | false =>
    go_enter Tryd.func35, Tryd.ntmps35
    go_wp2_with (go_at_call 16; refine (HI.out _).mono ?_; rintro e w1 ⟨rfl, rfl⟩)
    go_ret
    exact ⟨rfl, rfl⟩

theorem implRefuse_no (a b : Int) (line : Nat) (w : World) (h : a ≤ b) :
    Calls Tryd.prog 34 #[.int .i64 a, .int .i64 b, .int .i64 line] w fun e w' => e = .returned (.tuple #[]) ∧ w = w' := by
  have h' : ¬ b < a := by omega
  go_enter Tryd.func34, Tryd.ntmps34
  go_wp2
  go_end0
  exact ⟨rfl, rfl⟩

theorem implRefuse_yes (a b : Int) (line : Nat) (w : World) (h : b < a) :
    Calls Tryd.prog 34 #[.int .i64 a, .int .i64 b, .int .i64 line] w fun e w' => e = noWordE line ∧ Below w.heap.size w w' := by
  go_enter Tryd.func34, Tryd.ntmps34
  go_wp2
  exact ⟨rfl, rfl, Below.refl _ _⟩

theorem numP_extract (s : ByteArray) (i k : Nat) (hk : i + k ≤ s.size) : ∀ j, j ≤ k → Lx.numP (s.extract i (i + k)) 0 j = Lx.numP s i j := by
  intro j
  induction j with
  | zero => intro _; rfl
  | succ j ih =>
    intro hj
    rw [Lx.numP, Lx.numP, ih (by omega)]
    have : Lx.byt (s.extract i (i + k)) (0 + j) = Lx.byt s (i + j) := by
      unfold Lx.byt
      rw [dif_pos (by simp; omega), dif_pos (by omega), ByteArray.getElem_extract]
      simp only [Nat.zero_add]
    rw [this]
theorem numP_lt (s : ByteArray) (i : Nat) : ∀ k, (∀ j, j < k → Lx.digitB (Lx.byt s (i + j)) = true) → Lx.numP s i k < 10 ^ k := by
  intro k
  induction k with
  | zero => intro _; simp [Lx.numP]
  | succ k ih =>
    intro h
    have h1 := ih fun j hj => h j (by omega)
    have h2 := h k (by omega)
    simp [Lx.digitB] at h2
    rw [Lx.numP, Nat.pow_succ]
    omega

set_option maxHeartbeats 400000 in
theorem implNumberOf (t : ByteArray) (w : World) (h9 : t.size ≤ 9) (hd : ∀ j, j < t.size → Lx.digitB (Lx.byt t j) = true) :
    Calls Tryd.prog 38 #[.string t] w fun e w' => e = .returned (.int .i64 (Lx.numP t 0 t.size : Nat)) ∧ w = w' := by
  have HD : Hid (∀ j, j < t.size → Lx.digitB (Lx.byt t j) = true) := hd
  clear hd
  go_enter Tryd.func38, Tryd.ntmps38
  go_wp2
  go_loop [3, 4] (fun n i => ∃ k : Nat, k ≤ t.size ∧ i = .int .i64 k ∧ n = .int .i64 (Lx.numP t 0 k : Nat)) (fun _ i => t.size - (intOf i).toNat)
  case atStart => exact ⟨0, Nat.zero_le _, rfl, rfl⟩
  case round =>
    obtain ⟨k, hk, rfl, rfl⟩ := hrel
    by_cases hlt : k < t.size
    · have hbe := Lx.byt_eq t k hlt
      have hb0 := HD.out k hlt
      have hb : 48 ≤ Lx.byt t k ∧ Lx.byt t k ≤ 57 := by simpa [Lx.digitB] using hb0
      have hn0 := numP_lt t 0 k fun j hj => by rw [Nat.zero_add]; exact HD.out j (by omega)
      have hn : Lx.numP t 0 k < 1000000000 := Nat.lt_of_lt_of_le hn0 (Nat.le_trans (Nat.pow_le_pow_right (by omega) (show k ≤ 9 by omega)) (by decide))
      have HS : Hid (Lx.numP t 0 (k + 1) = 10 * Lx.numP t 0 k + (Lx.byt t k - 48)) := by
        show _ = _
        rw [Lx.numP, Nat.zero_add]
      obtain ⟨hb1, hb2⟩ := hb
      have hwr : IntKind.u8.wrap ((Lx.byt t k : Int) - 48) = (Lx.byt t k : Int) - 48 := by
        simp [IntKind.wrap, IntKind.signed, IntKind.bits]; omega
      clear hb0 hn0
      generalize Lx.numP t 0 k = n at *
      generalize Lx.byt t k = b at *
      go_wp2
      go_round
      case rel => exact ⟨k + 1, by omega, by go_num, by rw [HS.out]; simp; omega⟩
      case measure => simp [intOf]; omega
    · have hke : k = t.size := by omega
      subst hke
      go_wp2
      go_ret
      exact ⟨rfl, rfl⟩

set_option maxHeartbeats 400000 in
theorem implQuote_yes (s : ByteArray) (i line : Nat) (w : World) (hs : s.size ≤ 140737488355328) (hi : i < s.size) (h1 : Lx.endP Lx.textB s (i + 1) < s.size) (h2 : Lx.byt s (Lx.endP Lx.textB s (i + 1)) = 34) :
    Calls Tryd.prog 39 #[.string s, .int .i64 i, .int .i64 line] w fun e w' => e = .returned (.int .i64 (Lx.endP Lx.textB s (i + 1) + 1 : Nat)) ∧ w = w' := by
  have HT : Hid (∀ j, i + 1 ≤ j → j < Lx.endP Lx.textB s (i + 1) → Lx.textB (Lx.byt s j) = true) := Lx.endP_in Lx.textB s (i + 1)
  have HE : Hid (Lx.byt s (Lx.endP Lx.textB s (i + 1)) = 34) := h2
  have hge := Lx.endP_ge Lx.textB s (i + 1)
  clear h2
  generalize Lx.endP Lx.textB s (i + 1) = E at *
  go_enter Tryd.func39, Tryd.ntmps39
  go_wp2
  go_loop [7] (fun a => ∃ k : Nat, i + 1 ≤ k ∧ k ≤ E ∧ a = .int .i64 k) (fun a => E - (intOf a).toNat)
  case atStart => exact ⟨i + 1, Nat.le_refl _, hge, by go_num⟩
  case round =>
    obtain ⟨k, hk1, hk2, rfl⟩ := hrel
    have hlt : k < s.size := by omega
    have hbe := Lx.byt_eq s k hlt
    by_cases he : k = E
    · subst he
      have h34 : ((Lx.byt s k : Int) == 34) = true := by simp [HE.out]
      go_wp2
      go_ret
      exact ⟨by rfl, rfl⟩
    · have ht := HT.out k hk1 (by omega)
      simp only [Lx.textB, decide_eq_true_eq] at ht
      obtain ⟨ht1, ht2, ht3, ht4⟩ := ht
      have h34 : ((Lx.byt s k : Int) == 34) = false := by simp; omega
      have h92 : ((Lx.byt s k : Int) == 92) = false := by simp; omega
      have h32 : decide ((Lx.byt s k : Int) < 32) = false := by simp; omega
      have h126 : decide ((126 : Int) < Lx.byt s k) = false := by simp; omega
      clear ht1 ht2 ht3 ht4
      go_wp2
      go_round
      case rel => exact ⟨k + 1, by omega, by omega, by go_num⟩
      case measure => simp [intOf]; omega

set_option maxHeartbeats 400000 in
theorem implQuote_no (s : ByteArray) (i line : Nat) (w : World) (hs : s.size ≤ 140737488355328) (hi : i < s.size) (h : ¬ (Lx.endP Lx.textB s (i + 1) < s.size ∧ Lx.byt s (Lx.endP Lx.textB s (i + 1)) = 34)) :
    Calls Tryd.prog 39 #[.string s, .int .i64 i, .int .i64 line] w fun e w' => e = noWordE line ∧ Below w.heap.size w w' := by
  have HT : Hid (∀ j, i + 1 ≤ j → j < Lx.endP Lx.textB s (i + 1) → Lx.textB (Lx.byt s j) = true) := Lx.endP_in Lx.textB s (i + 1)
  have HE : Hid (Lx.endP Lx.textB s (i + 1) < s.size → Lx.byt s (Lx.endP Lx.textB s (i + 1)) ≠ 34 ∧ Lx.textB (Lx.byt s (Lx.endP Lx.textB s (i + 1))) = false) := fun hl => by
    refine ⟨fun e => h ⟨hl, e⟩, ?_⟩
    rcases Lx.endP_at Lx.textB s (i + 1) with g | g
    · omega
    · exact g
  have hge := Lx.endP_ge Lx.textB s (i + 1)
  have hle := Lx.endP_le Lx.textB s (i + 1) (by omega)
  clear h
  generalize Lx.endP Lx.textB s (i + 1) = E at *
  go_enter Tryd.func39, Tryd.ntmps39
  go_wp2
  go_loop [7] (fun a => ∃ k : Nat, i + 1 ≤ k ∧ k ≤ E ∧ a = .int .i64 k) (fun a => E - (intOf a).toNat)
  case atStart => exact ⟨i + 1, Nat.le_refl _, hge, by go_num⟩
  case round =>
    obtain ⟨k, hk1, hk2, rfl⟩ := hrel
    by_cases hlt : k < s.size
    · have hbe := Lx.byt_eq s k hlt
      by_cases he : k = E
      · subst he
        obtain ⟨n34, ht⟩ := HE.out hlt
        have h34 : ((Lx.byt s k : Int) == 34) = false := by simp; omega
        simp only [Lx.textB, decide_eq_false_iff_not] at ht
        by_cases c1 : Lx.byt s k < 32
        · have h32 : decide ((Lx.byt s k : Int) < 32) = true := by simp; omega
          clear ht n34 c1
          go_wp2
          exact ⟨rfl, rfl, Below.refl _ _⟩
        · have h32 : decide ((Lx.byt s k : Int) < 32) = false := by simp; omega
          by_cases c2 : 126 < Lx.byt s k
          · have h126 : decide ((126 : Int) < Lx.byt s k) = true := by simp; omega
            clear ht n34 c1 c2
            go_wp2
            exact ⟨rfl, rfl, Below.refl _ _⟩
          · have h126 : decide ((126 : Int) < Lx.byt s k) = false := by simp; omega
            have h92 : ((Lx.byt s k : Int) == 92) = true := by simp; omega
            clear ht n34 c1 c2
            go_wp2
            exact ⟨rfl, rfl, Below.refl _ _⟩
      · have ht := HT.out k hk1 (by omega)
        simp only [Lx.textB, decide_eq_true_eq] at ht
        obtain ⟨ht1, ht2, ht3, ht4⟩ := ht
        have h34 : ((Lx.byt s k : Int) == 34) = false := by simp; omega
        have h92 : ((Lx.byt s k : Int) == 92) = false := by simp; omega
        have h32 : decide ((Lx.byt s k : Int) < 32) = false := by simp; omega
        have h126 : decide ((126 : Int) < Lx.byt s k) = false := by simp; omega
        clear ht1 ht2 ht3 ht4
        go_wp2
        go_round
        case rel => exact ⟨k + 1, by omega, by omega, by go_num⟩
        case measure => simp [intOf]; omega
    · go_wp2
      exact ⟨rfl, rfl, Below.refl _ _⟩

theorem toList2 {t : ByteArray} {a b : UInt8} (h : 2 ≤ t.size) : ((t.extract 0 2).toList == [a, b]) = decide (Lx.byt t 0 = a.toNat ∧ Lx.byt t 1 = b.toNat) := by
  have e : (t.extract 0 2).toList = [t[0]'(by omega), t[1]'(by omega)] := by
    obtain ⟨⟨l⟩⟩ := t
    match l, h with
    | x :: y :: r, _ =>
      rw [ByteArray.toList_eq]
      simp [ByteArray.getElem_eq_getElem_data]
  rw [e, ← Lx.byt_eq t 0 (by omega), ← Lx.byt_eq t 1 (by omega), Bool.eq_iff_iff]
  simp [UInt8.toNat_inj]

def preB (t : ByteArray) (a b : UInt8) : Bool := decide (2 ≤ t.size ∧ Lx.byt t 0 = a.toNat ∧ Lx.byt t 1 = b.toNat)

set_option maxHeartbeats 400000 in
theorem libHasPrefix (t : ByteArray) (a b : UInt8) (w : World) (hs : t.size ≤ 140737488355328) :
    Calls Tryd.prog 45 #[.string t, .string ⟨#[a, b]⟩] w fun e w' => e = .returned (.bool (preB t a b)) ∧ w = w' := by
  by_cases h : 2 ≤ t.size
  · have HR : Hid (preB t a b = ((t.extract 0 2).toList == [a, b])) := by
      show _ = _
      rw [toList2 h, preB]
      simp [h]
    have h2 : (2 : Int) ≤ t.size := by omega
    generalize preB t a b = r at *
    go_enter Tryd.func45, Tryd.ntmps45
    go_wp2
    go_ret
    exact ⟨by rw [HR.out]; rfl, rfl⟩
  · have HR : Hid (preB t a b = false) := by
      show _ = _
      rw [preB]
      simp [h]
    have h2 : decide ((2 : Int) ≤ t.size) = false := by simp; omega
    generalize preB t a b = r at *
    go_enter Tryd.func45, Tryd.ntmps45
    go_wp2
    go_ret
    exact ⟨by rw [HR.out]; rfl, rfl⟩

theorem byt_extract (s : ByteArray) (i j k : Nat) (h : i + k < j) (hj : j ≤ s.size) : Lx.byt (s.extract i j) k = Lx.byt s (i + k) := by
  unfold Lx.byt
  rw [dif_pos (by simp; omega), dif_pos (by omega), ByteArray.getElem_extract]

theorem run_from (s : ByteArray) (i : Nat) (hi : i ≤ s.size) (wx : World) : (Instr.slice 9 (.string s) (some (.int .i64 (i : Int))) none none).run Tryd.prog wx = .ok (.string (s.extract i s.size)) wx := by
  rw [run_slice_string_from_if (P := Tryd.prog) wx 9 s .i64 (i : Int) Tryd.underlying9, if_pos (by omega)]
  simp

set_option maxHeartbeats 400000 in
theorem implSign (s : ByteArray) (i line : Nat) (w : World) (hs : s.size ≤ 140737488355328) (hi : i < s.size) :
    Calls Tryd.prog 40 #[.string s, .int .i64 i, .int .i64 line] w fun e w' => (if Lx.twoB s i then e = .returned (.int .i64 ((i + 2 : Nat) : Int)) else if Lx.byt s i = 45 then e = noWordE line else e = .returned (.int .i64 ((i + 1 : Nat) : Int))) ∧ w = w' := by
  have hsl := run_from s i (by omega)
  have hz : (s.extract i s.size).size = s.size - i := by simp
  have hb0 : Lx.byt (s.extract i s.size) 0 = Lx.byt s i := byt_extract s i s.size 0 (by omega) (Nat.le_refl _)
  have h45 : preB (s.extract i s.size) 45 62 = decide (i + 1 < s.size ∧ Lx.byt s i = 45 ∧ Lx.byt s (i + 1) = 62) := by
    unfold preB
    rw [hz, hb0]
    by_cases h2 : i + 1 < s.size
    · rw [byt_extract s i s.size 1 (by omega) (Nat.le_refl _), Bool.eq_iff_iff]
      simp
      omega
    · rw [decide_eq_false (by omega), decide_eq_false (by omega)]
  have h61 : preB (s.extract i s.size) 61 61 = decide (i + 1 < s.size ∧ Lx.byt s i = 61 ∧ Lx.byt s (i + 1) = 61) := by
    unfold preB
    rw [hz, hb0]
    by_cases h2 : i + 1 < s.size
    · rw [byt_extract s i s.size 1 (by omega) (Nat.le_refl _), Bool.eq_iff_iff]
      simp
      omega
    · rw [decide_eq_false (by omega), decide_eq_false (by omega)]
  have h2 : Lx.twoB s i = (preB (s.extract i s.size) 45 62 || preB (s.extract i s.size) 61 61) := by
    rw [h45, h61, Lx.twoB, Bool.eq_iff_iff]
    simp
    omega
  have H1 : Hid (∀ wx : World, Calls Tryd.prog 45 #[.string (s.extract i s.size), .string ⟨#[45, 62]⟩] wx fun e w' => e = .returned (.bool (preB (s.extract i s.size) 45 62)) ∧ wx = w') := fun wx => libHasPrefix _ 45 62 wx (by omega)
  have H2 : Hid (∀ wx : World, Calls Tryd.prog 45 #[.string (s.extract i s.size), .string ⟨#[61, 61]⟩] wx fun e w' => e = .returned (.bool (preB (s.extract i s.size) 61 61)) ∧ wx = w') := fun wx => libHasPrefix _ 61 61 wx (by omega)
  have hpos : 0 < (s.extract i s.size).size := by omega
  have hbe := Lx.byt_eq (s.extract i s.size) 0 hpos
  rw [hb0] at hbe
  rw [h2]
  have hbl := Lx.byt_lt s i
  clear h2 h45 h61 hb0 hz
  generalize preB (s.extract i s.size) 45 62 = p1 at *
  generalize preB (s.extract i s.size) 61 61 = p2 at *
  generalize s.extract i s.size = t at *
  cases p1 with
  | true =>
    simp only [Bool.true_or, if_true]
    go_enter Tryd.func40, Tryd.ntmps40
    go_wp2_with fail
    refine (H1.out _).mono ?_
    rintro e w1 ⟨rfl, rfl⟩
    go_wp2
    go_ret
    exact ⟨rfl, rfl⟩
  | false =>
    cases p2 with
    | true =>
      simp only [Bool.or_true, if_true]
      go_enter Tryd.func40, Tryd.ntmps40
      go_wp2_with fail
      refine (H1.out _).mono ?_
      rintro e w1 ⟨rfl, rfl⟩
      go_wp2_with fail
      refine (H2.out _).mono ?_
      rintro e w1 ⟨rfl, rfl⟩
      go_wp2
      go_ret
      exact ⟨rfl, rfl⟩
    | false =>
      by_cases c : Lx.byt s i = 45
      · have g : ((Lx.byt s i : Int) == 45) = true := by simp [c]
        simp only [Bool.or_false, Bool.false_eq_true, if_false, if_pos c]
        clear c
        go_enter Tryd.func40, Tryd.ntmps40
        go_wp2_with fail
        refine (H1.out _).mono ?_
        rintro e w1 ⟨rfl, rfl⟩
        go_wp2_with fail
        refine (H2.out _).mono ?_
        rintro e w1 ⟨rfl, rfl⟩
        go_wp2
        exact ⟨rfl, rfl, rfl⟩
      · have g : ((Lx.byt s i : Int) == 45) = false := by simp; omega
        simp only [Bool.or_false, Bool.false_eq_true, if_false, if_neg c]
        clear c
        go_enter Tryd.func40, Tryd.ntmps40
        go_wp2_with fail
        refine (H1.out _).mono ?_
        rintro e w1 ⟨rfl, rfl⟩
        go_wp2_with fail
        refine (H2.out _).mono ?_
        rintro e w1 ⟨rfl, rfl⟩
        go_wp2
        go_ret
        exact ⟨rfl, rfl⟩

end Go.Proofs.YtihpdngpedgjhaaDoor

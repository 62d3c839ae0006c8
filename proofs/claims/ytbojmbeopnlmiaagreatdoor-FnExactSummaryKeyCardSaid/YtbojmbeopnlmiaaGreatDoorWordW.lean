/-
 The walk of impl.IsWord: whether a text is a word of the language.
-/
import Derived.Test.YtbojmbeopnlmiaaGreatDoorTextU
namespace Go.Proofs.YtbojmbeopnlmiaaGreatDoor
open Go.RowKit
theorem lit_ne {s : ByteArray} {l : List UInt8} (h : ¬ s = ⟨l.toArray⟩) : (s.toList == l) = false := by
 rw [ByteArray.toList_eq]
 simp only [beq_eq_false_iff_ne, ne_eq]
 intro e
 exact h (by cases s; simp at e; simp [← e])
set_option maxHeartbeats 800000 in
theorem implIsWord (s : ByteArray) (w : World) :
  Calls Tryz.prog 101 #[.string s] w fun e w' => e = .returned (.bool (Lx.isWordP s)) ∧ w = w' := by
 by_cases h : s ∈ Lx.wordsL
 ·rw [(Lx.isWordP_iff s).2 h]
  unfold Lx.wordsL at h
  simp only [List.mem_cons, List.not_mem_nil, or_false] at h
  rcases h with rfl | rfl | rfl | rfl | rfl | rfl | rfl | rfl | rfl | rfl | rfl | rfl | rfl | rfl
  all_goals
   go_enter Tryz.func101, Tryz.ntmps101
   go_wp2
   go_ret
   exact ⟨rfl, rfl⟩
 ·have hf : Lx.isWordP s = false := by
   cases hh : Lx.isWordP s
   ·rfl
   ·exact absurd ((Lx.isWordP_iff s).1 hh) h
  rw [hf]
  unfold Lx.wordsL at h
  simp only [List.mem_cons, List.not_mem_nil, or_false, not_or] at h
  obtain ⟨n1, n2, n3, n4, n5, n6, n7, n8, n9, n10, n11, n12, n13, n14⟩ := h
  have h1 := lit_ne n1
  have h2 := lit_ne n2
  have h3 := lit_ne n3
  have h4 := lit_ne n4
  have h5 := lit_ne n5
  have h6 := lit_ne n6
  have h7 := lit_ne n7
  have h8 := lit_ne n8
  have h9 := lit_ne n9
  have h10 := lit_ne n10
  have h11 := lit_ne n11
  have h12 := lit_ne n12
  have h13 := lit_ne n13
  have h14 := lit_ne n14
  clear n1 n2 n3 n4 n5 n6 n7 n8 n9 n10 n11 n12 n13 n14
  go_enter Tryz.func101, Tryz.ntmps101
  go_wp2
  go_ret
  exact ⟨rfl, rfl⟩
def hasP (ts : List ByteArray) (s : ByteArray) : Bool := ts.any fun x => decide (x.data = s.data)
theorem hasP_at {ts : List ByteArray} {s : ByteArray} {k : Nat} (h : k < ts.length) (e : ts[k] = s) : hasP ts s = true := by
 unfold hasP
 rw [List.any_eq_true]
 exact ⟨ts[k], List.getElem_mem h, by simp [e]⟩
theorem hasP_none {ts : List ByteArray} {s : ByteArray} (h : ∀ k (hk : k < ts.length), ¬ ts[k] = s) : hasP ts s = false := by
 unfold hasP
 rw [List.any_eq_false]
 intro x hx
 obtain ⟨k, hk, rfl⟩ := List.getElem_of_mem hx
 have := h k hk
 intro e
 apply this
 have e2 : ts[k].data = s.data := by simpa using e
 generalize ts[k] = a at *
 cases a; cases s; simp at e2; rw [e2]
theorem list_differ {a b : ByteArray} (h : ¬ a = b) : (a.toList == b.toList) = false := by
 rw [ByteArray.toList_eq, ByteArray.toList_eq]
 simp only [beq_eq_false_iff_ne, ne_eq]
 intro e
 have h2 : a.data = b.data := Array.toList_inj.1 e
 exact h (by cases a; cases b; simp at h2; rw [h2])
set_option maxHeartbeats 400000 in
theorem specHas (v : Value) (ts : List ByteArray) (s : ByteArray) (w : World) (hT : Texts w v ts) (hl : ts.length ≤ 1048576) :
  Calls Tryz.prog 98 #[v, .string s] w fun e w' => e = .returned (.bool (hasP ts s)) ∧ w = w' := by
 obtain ⟨a, cap, rfl, hc⟩ : ∃ a cap, v = .slice a ts.length cap ∧ ∀ j (h : j < ts.length), ∃ b off, a = some ⟨b, off, none⟩ ∧ w.cell? ⟨b, off + j, none⟩ = some (.string ts[j]) := by
  rcases hT with ⟨h, a, cap, e⟩ | ⟨b, off, cap, e, hc⟩
  ·subst h; exact ⟨a, cap, e, fun j hj => absurd hj (by simp)⟩
  ·exact ⟨_, cap, e, fun j hj => ⟨b, off, rfl, hc j hj⟩⟩
 have HC : Hid (∀ j (h : j < ts.length), ∃ b off, a = some ⟨b, off, none⟩ ∧ w.cell? ⟨b, off + j, none⟩ = some (.string ts[j])) := hc
 clear hT hc
 go_enter Tryz.func98, Tryz.ntmps98
 go_wp2
 go_loop [5] (fun i => ∃ k : Nat, k ≤ ts.length ∧ i = .int .i64 k ∧ ∀ j (hj : j < ts.length), j < k → ¬ ts[j] = s) (fun i => ts.length - (intOf i).toNat)
 case atStart => exact ⟨0, Nat.zero_le _, rfl, fun j _ h => absurd h (by omega)⟩
 case round =>
  obtain ⟨k, hk, rfl, hno⟩ := hrel
  have HN : Hid (∀ j (hj : j < ts.length), j < k → ¬ ts[j] = s) := hno
  clear hno
  by_cases hlt : k < ts.length
  ·obtain ⟨b, off, rfl, hcell⟩ := HC.out k hlt
   by_cases he : ts[k] = s
   ·have HY : Hid (hasP ts s = true) := hasP_at hlt he
    rw [he] at hcell
    clear he HC
    go_wp2
    go_ret
    exact ⟨by rw [HY.out]; rfl, rfl⟩
   ·have hne := list_differ he
    have HN2 : Hid (∀ j (hj : j < ts.length), j < k + 1 → ¬ ts[j] = s) := fun j hj h => by
     by_cases e : j = k
     ·subst e; exact he
     ·exact HN.out j hj (by omega)
    clear he
    generalize ts[k] = p at *
    go_wp2
    go_round
    case rel => exact ⟨k + 1, by omega, by go_num, HN2.out⟩
    case measure => simp [intOf]; omega
  ·have HY : Hid (hasP ts s = false) := hasP_none fun j hj => HN.out j hj (by omega)
   go_wp2
   go_ret
   exact ⟨by rw [HY.out]; rfl, rfl⟩
set_option maxHeartbeats 400000 in
theorem specIsWord (s : ByteArray) (w : World) :
  Calls Tryz.prog 74 #[.string s] w fun e w' => e = .returned (.bool (Lx.isWordP s)) ∧ Below w.heap.size w w' := by
 have HH : Hid (Calls Tryz.prog 98 #[.slice (some ⟨w.heap.size, 0, none⟩) 14 14, .string s] (w.alloc (.cells (strV Lx.wordsL).toArray 9)) fun e w' => e = .returned (.bool (Lx.isWordP s)) ∧ (w.alloc (.cells (strV Lx.wordsL).toArray 9)) = w') := by
  have hT : Texts (w.alloc (.cells (strV Lx.wordsL).toArray 9)) (.slice (some ⟨w.heap.size, 0, none⟩) 14 14) Lx.wordsL :=
   Texts.own (B := w.heap.size) (World.ownsRow_lit (base := w.heap.size) (e := 9) (size := 1) w (strV Lx.wordsL).toArray 14 (Nat.le_refl _) (by decide) rfl)
  exact specHas _ _ _ _ hT (by decide)
 simp only [strV, Lx.wordsL, List.map_cons, List.map_nil] at HH
 generalize Lx.isWordP s = r at *
 go_enter Tryz.func74, Tryz.ntmps74
 go_wp2_with (go_at_call 98; refine HH.out.mono ?_; rintro e w1 ⟨rfl, rfl⟩)
 go_ret
 exact ⟨rfl, (Below.refl _ _).alloc (Nat.le_refl _) _⟩
set_option maxHeartbeats 400000 in
theorem specLetter (b : Nat) (w : World) (hb : b < 256) :
  Calls Tryz.prog 72 #[.int .u8 b] w fun e w' => e = .returned (.bool (Lx.letterB b)) ∧ w = w' := by
 by_cases h1 : 97 ≤ b ∧ b ≤ 122
 ·have e : Lx.letterB b = true := by simp [Lx.letterB]; omega
  rw [e]
  obtain ⟨ha, hc⟩ := h1
  have ha' : (97 : Int) ≤ b := by omega
  have hc' : (b : Int) ≤ 122 := by omega
  go_enter Tryz.func72, Tryz.ntmps72
  go_wp2
  go_ret
  exact ⟨rfl, rfl⟩
 ·by_cases h2 : 65 ≤ b ∧ b ≤ 90
  ·have e : Lx.letterB b = true := by simp [Lx.letterB]; omega
   rw [e]
   obtain ⟨ha, hc⟩ := h2
   have ha' : (65 : Int) ≤ b := by omega
   have hc' : (b : Int) ≤ 90 := by omega
   have hd' : decide ((97 : Int) ≤ b) = false := by simp; omega
   clear h1
   go_enter Tryz.func72, Tryz.ntmps72
   go_wp2
   go_ret
   exact ⟨rfl, rfl⟩
  ·have e : Lx.letterB b = false := by simp [Lx.letterB]; omega
   rw [e]
   have hx : (b < 65 ∨ (90 < b ∧ b < 97)) ∨ 122 < b := by omega
   clear h1 h2
   rcases hx with (hx | ⟨hx, hy⟩) | hx
   ·have g1 : decide ((97 : Int) ≤ b) = false := by simp; omega
    have g2 : decide ((65 : Int) ≤ b) = false := by simp; omega
    go_enter Tryz.func72, Tryz.ntmps72
    go_wp2
    go_ret
    exact ⟨rfl, rfl⟩
   ·have g1 : decide ((97 : Int) ≤ b) = false := by simp; omega
    have g2 : (65 : Int) ≤ b := by omega
    have g3 : decide ((b : Int) ≤ 90) = false := by simp; omega
    go_enter Tryz.func72, Tryz.ntmps72
    go_wp2
    go_ret
    exact ⟨rfl, rfl⟩
   ·have g1 : (97 : Int) ≤ b := by omega
    have g2 : decide ((b : Int) ≤ 122) = false := by simp; omega
    have g3 : (65 : Int) ≤ b := by omega
    have g4 : decide ((b : Int) ≤ 90) = false := by simp; omega
    go_enter Tryz.func72, Tryz.ntmps72
    go_wp2
    go_ret
    exact ⟨rfl, rfl⟩
set_option maxHeartbeats 400000 in
theorem specDigit (b : Nat) (w : World) (hb : b < 256) :
  Calls Tryz.prog 73 #[.int .u8 b] w fun e w' => e = .returned (.bool (Lx.digitB b)) ∧ w = w' := by
 by_cases h1 : 48 ≤ b
 ·by_cases h2 : b ≤ 57
  ·have e : Lx.digitB b = true := by simp [Lx.digitB]; omega
   rw [e]
   have ha' : (48 : Int) ≤ b := by omega
   have hc' : (b : Int) ≤ 57 := by omega
   go_enter Tryz.func73, Tryz.ntmps73
   go_wp2
   go_ret
   exact ⟨rfl, rfl⟩
  ·have e : Lx.digitB b = false := by simp [Lx.digitB]; omega
   rw [e]
   have ha' : (48 : Int) ≤ b := by omega
   have hc' : decide ((b : Int) ≤ 57) = false := by simp; omega
   go_enter Tryz.func73, Tryz.ntmps73
   go_wp2
   go_ret
   exact ⟨rfl, rfl⟩
 ·have e : Lx.digitB b = false := by simp [Lx.digitB]; omega
  rw [e]
  have ha' : decide ((48 : Int) ≤ b) = false := by simp; omega
  go_enter Tryz.func73, Tryz.ntmps73
  go_wp2
  go_ret
  exact ⟨rfl, rfl⟩
theorem endP_all {p : Nat → Bool} {s : ByteArray} {k : Nat} (hk : k ≤ s.size) (h : ∀ j, k ≤ j → j < s.size → p (Lx.byt s j) = true) : Lx.endP p s k = s.size := by
 have h1 := Lx.endP_le p s k hk
 rcases Lx.endP_at p s k with h2 | h2
 ·omega
 ·by_cases h3 : Lx.endP p s k < s.size
  ·rw [h _ (Lx.endP_ge p s k) h3] at h2
   cases h2
  ·omega
def Fine (s : ByteArray) (k : Nat) : Prop := ∀ j, j < k → Lx.letterB (Lx.byt s j) = true ∨ (j ≠ 0 ∧ Lx.digitB (Lx.byt s j) = true)
theorem Fine.more {s : ByteArray} {k : Nat} (h : Fine s k) (hk : Lx.letterB (Lx.byt s k) = true ∨ (k ≠ 0 ∧ Lx.digitB (Lx.byt s k) = true)) : Fine s (k + 1) := fun j hj => by
 by_cases e : j = k
 ·subst e; exact hk
 ·exact h j (by omega)
theorem Fine.ok {s : ByteArray} (h : Fine s s.size) (h1 : 1 ≤ s.size) (h2 : s.size ≤ 12) : Lx.nameOkP s = !Lx.isWordP s := by
 have e1 : Lx.letterB (Lx.byt s 0) = true := by
  rcases h 0 (by omega) with h | h
  ·exact h
  ·exact absurd rfl h.1
 have e2 : Lx.endP Lx.alB s 0 = s.size := endP_all (Nat.zero_le _) fun j _ hj => by
  rcases h j hj with h | h
  ·simp [Lx.alB, h]
  ·simp [Lx.alB, h.2]
 unfold Lx.nameOkP
 rw [e1, e2]
 simp [h1, h2]
theorem nameOk_size {s : ByteArray} (h : ¬ (1 ≤ s.size ∧ s.size ≤ 12)) : Lx.nameOkP s = false := by
 unfold Lx.nameOkP
 rw [decide_eq_false h]
 rfl
theorem nameOk_at {s : ByteArray} {k : Nat} (hk : k < s.size) (h1 : Lx.letterB (Lx.byt s k) = false) (h2 : k = 0 ∨ Lx.digitB (Lx.byt s k) = false) : Lx.nameOkP s = false := by
 unfold Lx.nameOkP
 have : (Lx.letterB (Lx.byt s 0) && decide (Lx.endP Lx.alB s 0 = s.size)) = false := by
  by_cases k0 : k = 0
  ·subst k0; rw [h1]; rfl
  ·have h3 : Lx.digitB (Lx.byt s k) = false := by rcases h2 with h | h; exact absurd h k0; exact h
   rw [Bool.and_eq_false_iff]
   right
   simp only [decide_eq_false_iff_not]
   intro e
   have := Lx.endP_in Lx.alB s 0 k (Nat.zero_le _) (by omega)
   simp [Lx.alB, h1, h3] at this
 rw [this]
 simp
set_option maxHeartbeats 800000 in
theorem specNameOk (s : ByteArray) (w : World) (hs : s.size ≤ 140737488355328) :
  Calls Tryz.prog 48 #[.string s] w fun e w' => e = .returned (.bool (Lx.nameOkP s)) ∧ Below w.heap.size w w' := by
 have HI : Hid (∀ wx : World, Calls Tryz.prog 74 #[.string s] wx fun e w' => e = .returned (.bool (Lx.isWordP s)) ∧ Below wx.heap.size wx w') := fun wx => specIsWord s wx
 go_enter Tryz.func48, Tryz.ntmps48
 go_wp2
 go_loop [3] (fun i => ∃ k : Nat, k ≤ s.size ∧ i = .int .i64 k ∧ Fine s k) (fun i => s.size - (intOf i).toNat)
 case atStart => exact ⟨0, Nat.zero_le _, rfl, fun j h => absurd h (by omega)⟩
 case round =>
  obtain ⟨k, hk, rfl, hf⟩ := hrel
  have HF : Hid (Fine s k) := hf
  clear hf
  by_cases hlt : k < s.size
  ·have hb := Lx.byt_lt s k
   have hbe := Lx.byt_eq s k hlt
   have HL : Hid (∀ wx : World, Calls Tryz.prog 72 #[.int .u8 (Lx.byt s k : Nat)] wx fun e w' => e = .returned (.bool (Lx.letterB (Lx.byt s k))) ∧ wx = w') := fun wx => specLetter _ wx hb
   have HD : Hid (∀ wx : World, Calls Tryz.prog 73 #[.int .u8 (Lx.byt s k : Nat)] wx fun e w' => e = .returned (.bool (Lx.digitB (Lx.byt s k))) ∧ wx = w') := fun wx => specDigit _ wx hb
   have HM : Hid (Lx.letterB (Lx.byt s k) = true ∨ (k ≠ 0 ∧ Lx.digitB (Lx.byt s k) = true) → Fine s (k + 1)) := fun h => HF.out.more h
   have HN : Hid (Lx.letterB (Lx.byt s k) = false → (k = 0 ∨ Lx.digitB (Lx.byt s k) = false) → Lx.nameOkP s = false) := nameOk_at hlt
   generalize Lx.letterB (Lx.byt s k) = L at *
   generalize Lx.digitB (Lx.byt s k) = D at *
   cases L with
   | true =>
    have HX : Hid (Fine s (k + 1)) := HM.out (.inl rfl)
    clear HM HN
    go_wp2_with (go_at_call 72; refine (HL.out _).mono ?_; rintro e w1 ⟨rfl, rfl⟩)
    go_round
    case rel => exact ⟨k + 1, by omega, by go_num, HX.out⟩
    case measure => simp [intOf]; omega
   | false =>
    by_cases hk0 : k = 0
    ·have HX : Hid (Lx.nameOkP s = false) := HN.out rfl (.inl hk0)
     have hk1 : ((k : Int) == 0) = true := by simp [hk0]
     clear hk0
     go_wp2_with (first | (go_at_call 72; refine (HL.out _).mono ?_; rintro e w1 ⟨rfl, rfl⟩) | (go_at_call 73; refine (HD.out _).mono ?_; rintro e w1 ⟨rfl, rfl⟩))
     go_ret
     exact ⟨by rw [HX.out]; rfl, Below.refl _ _⟩
    ·have hk1 : ((k : Int) == 0) = false := by simp; omega
     cases D with
     | true =>
      have HX : Hid (Fine s (k + 1)) := HM.out (.inr ⟨hk0, rfl⟩)
      clear hk0
      go_wp2_with (first | (go_at_call 72; refine (HL.out _).mono ?_; rintro e w1 ⟨rfl, rfl⟩) | (go_at_call 73; refine (HD.out _).mono ?_; rintro e w1 ⟨rfl, rfl⟩))
      go_round
      case rel => exact ⟨k + 1, by omega, by go_num, HX.out⟩
      case measure => simp [intOf]; omega
     | false =>
      have HX : Hid (Lx.nameOkP s = false) := HN.out rfl (.inr rfl)
      clear hk0
      go_wp2_with (first | (go_at_call 72; refine (HL.out _).mono ?_; rintro e w1 ⟨rfl, rfl⟩) | (go_at_call 73; refine (HD.out _).mono ?_; rintro e w1 ⟨rfl, rfl⟩))
      go_ret
      exact ⟨by rw [HX.out]; rfl, Below.refl _ _⟩
  ·have hke : k = s.size := by omega
   subst hke
   by_cases h1 : 1 ≤ s.size
   ·by_cases h2 : s.size ≤ 12
    ·have HX : Hid (Lx.nameOkP s = !Lx.isWordP s) := HF.out.ok h1 h2
     generalize Lx.isWordP s = r at *
     go_wp2_with (first | (go_at_call 65; go_in) | (go_at_call 74; refine (HI.out _).mono ?_; rintro e w1 ⟨rfl, hb1⟩))
     go_ret
     exact ⟨by rw [HX.out]; rfl, hb1⟩
    ·have HX : Hid (Lx.nameOkP s = false) := nameOk_size (by omega)
     have g : decide ((s.size : Int) ≤ 12) = false := by simp; omega
     go_wp2_with (first | (go_at_call 65; go_in) | (go_at_call 74; refine (HI.out _).mono ?_; rintro e w1 ⟨rfl, hb1⟩))
     go_ret
     exact ⟨by rw [HX.out]; rfl, Below.refl _ _⟩
   ·have HX : Hid (Lx.nameOkP s = false) := nameOk_size (by omega)
    have g : decide ((1 : Int) ≤ s.size) = false := by simp; omega
    go_wp2_with (first | (go_at_call 65; go_in) | (go_at_call 74; refine (HI.out _).mono ?_; rintro e w1 ⟨rfl, hb1⟩))
    go_ret
    exact ⟨by rw [HX.out]; rfl, Below.refl _ _⟩
theorem isEmpty_of {s : ByteArray} (h : s.size = 0) : s.toList.isEmpty = true := by
 rw [ByteArray.toList_eq]
 cases hl : s.data.toList with
 | nil => rfl
 | cons x r =>
  have h2 : s.data.toList.length = s.size := rfl
  rw [hl, h] at h2
  simp at h2
theorem isEmpty_no {s : ByteArray} (h : 0 < s.size) : s.toList.isEmpty = false := by
 rw [ByteArray.toList_eq]
 cases hl : s.data.toList with
 | nil =>
  have h2 : s.data.toList.length = s.size := rfl
  rw [hl] at h2
  simp at h2
  omega
 | cons x r => rfl
set_option maxHeartbeats 800000 in
theorem implNameOk (s : ByteArray) (w : World) (hs : s.size ≤ 140737488355328) (hc : ClsIs w) :
  Calls Tryz.prog 77 #[.string s] w fun e w' => e = .returned (.bool (Lx.nameOkP s)) ∧ w = w' := by
 have HI : Hid (∀ wx : World, Calls Tryz.prog 101 #[.string s] wx fun e w' => e = .returned (.bool (Lx.isWordP s)) ∧ wx = w') := fun wx => implIsWord s wx
 by_cases h0 : s.size = 0
 ·have HX : Hid (Lx.nameOkP s = false) := nameOk_size (by omega)
  have he := isEmpty_of h0
  clear hc
  go_enter Tryz.func77, Tryz.ntmps77
  go_wp2
  go_ret
  exact ⟨by rw [HX.out]; rfl, rfl⟩
 ·have he := isEmpty_no (s := s) (by omega)
  by_cases h12 : s.size ≤ 12
  ·have g12 : decide ((12 : Int) < s.size) = false := by simp; omega
   have hw : Lx.nameOkP s = (decide (Lx.cls (Lx.byt s 0) = 4) && decide (Lx.endP Lx.alB s 0 = s.size) && !Lx.isWordP s) := by
    unfold Lx.nameOkP
    rw [decide_eq_true (show 1 ≤ s.size ∧ s.size ≤ 12 by omega), show decide (Lx.cls (Lx.byt s 0) = 4) = Lx.letterB (Lx.byt s 0) from by rw [Bool.eq_iff_iff]; simp [cls4]]
    simp
   have HW : Hid (Lx.nameOkP s = _) := hw
   have h00 : 0 < s.size := by omega
   have hbe := Lx.byt_eq s 0 h00
   have HC : Hid (∀ wx : World, wx = w → Calls Tryz.prog 102 #[.int .u8 (Lx.byt s 0 : Nat)] wx fun e w' => e = .returned (.int .u8 (Lx.cls (Lx.byt s 0) : Nat)) ∧ wx = w') := fun wx hx => implClassOf _ wx (Lx.byt_lt s 0) (hx ▸ hc)
   have HE : Hid (∀ wx : World, wx = w → Calls Tryz.prog 103 #[.string s, .int .i64 0] wx fun e w' => e = .returned (.int .i64 (Lx.endP Lx.alB s 0 : Nat)) ∧ wx = w') := fun wx hx => implNameEnd s 0 wx hs (Nat.zero_le _) (hx ▸ hc)
   clear hc hw
   generalize Lx.nameOkP s = r at *
   generalize Lx.isWordP s = r1 at *
   cases r1 with
   | true =>
    have HX : Hid (r = false) := by
     show _ = _
     rw [HW.out]; simp
    go_enter Tryz.func77, Tryz.ntmps77
    go_wp2_with (go_at_call 101; refine (HI.out _).mono ?_; rintro e w1 ⟨rfl, rfl⟩)
    go_ret
    exact ⟨by rw [HX.out]; rfl, rfl⟩
   | false =>
    by_cases hcl : Lx.cls (Lx.byt s 0) = 4
    ·rw [hcl] at HC
     have hsz := Lx.endP_le Lx.alB s 0 (Nat.zero_le _)
     have HX : Hid (r = decide ((Lx.endP Lx.alB s 0 : Int) = (s.size : Int))) := by
      show _ = _
      rw [HW.out, decide_eq_true hcl, Bool.eq_iff_iff]
      simp
      omega
     generalize Lx.endP Lx.alB s 0 = E at *
     go_enter Tryz.func77, Tryz.ntmps77
     go_wp2_with (first | (go_at_call 101; refine (HI.out _).mono ?_; rintro e w1 ⟨rfl, rfl⟩) | (go_at_call 102; refine (HC.out _ rfl).mono ?_; rintro e w1 ⟨rfl, rfl⟩) | (go_at_call 103; refine (HE.out _ rfl).mono ?_; rintro e w1 ⟨rfl, rfl⟩))
     go_ret
     exact ⟨by rw [HX.out]; rfl, rfl⟩
    ·have HX : Hid (r = false) := by
      show _ = _
      rw [HW.out, decide_eq_false hcl]; rfl
     have hne : ((Lx.cls (Lx.byt s 0) : Int) == 4) = false := by simp; omega
     clear hcl
     generalize Lx.cls (Lx.byt s 0) = c at *
     go_enter Tryz.func77, Tryz.ntmps77
     go_wp2_with (first | (go_at_call 101; refine (HI.out _).mono ?_; rintro e w1 ⟨rfl, rfl⟩) | (go_at_call 102; refine (HC.out _ rfl).mono ?_; rintro e w1 ⟨rfl, rfl⟩) | (go_at_call 103; refine (HE.out _ rfl).mono ?_; rintro e w1 ⟨rfl, rfl⟩))
     go_ret
     exact ⟨by rw [HX.out]; rfl, rfl⟩
  ·have g12 : decide ((12 : Int) < s.size) = true := by simp; omega
   have HX : Hid (Lx.nameOkP s = false) := nameOk_size (by omega)
   clear hc
   go_enter Tryz.func77, Tryz.ntmps77
   go_wp2_with (go_at_call 101; refine (HI.out _).mono ?_; rintro e w1 ⟨rfl, rfl⟩)
   go_ret
   exact ⟨by rw [HX.out]; rfl, rfl⟩
def dotP (s : ByteArray) : Nat → Nat → Option Nat
 | 0, _ => none
 | f + 1, i => if i < s.size then (if Lx.byt s i = 46 then some i else dotP s f (i + 1)) else none
def dottedP (s : ByteArray) : Bool := match dotP s (s.size + 1) 0 with
 | some i => Lx.nameOkP (s.extract 0 i) && Lx.nameOkP (s.extract (i + 1) s.size)
 | none => Lx.nameOkP s
theorem dotP_skip {s : ByteArray} {f i : Nat} (h : i < s.size) (hb : Lx.byt s i ≠ 46) : dotP s (f + 1) i = dotP s f (i + 1) := by
 rw [dotP, if_pos h, if_neg hb]
theorem dotP_hit {s : ByteArray} {f i : Nat} (h : i < s.size) (hb : Lx.byt s i = 46) : dotP s (f + 1) i = some i := by
 rw [dotP, if_pos h, if_pos hb]
theorem dotP_end {s : ByteArray} {f i : Nat} (h : ¬ i < s.size) : dotP s f i = none := by
 cases f with
 | zero => rfl
 | succ f => rw [dotP, if_neg h]
set_option maxHeartbeats 800000 in
set_option maxRecDepth 100000 in
theorem specDotted (s : ByteArray) (w : World) (hs : s.size ≤ 140737488355328) :
  Calls Tryz.prog 63 #[.string s] w fun e w' => e = .returned (.bool (dottedP s)) ∧ Below w.heap.size w w' := by
 have HN : Hid (∀ (x : ByteArray) (wx : World), x.size ≤ 140737488355328 → Calls Tryz.prog 48 #[.string x] wx fun e w' => e = .returned (.bool (Lx.nameOkP x)) ∧ Below wx.heap.size wx w') := fun x wx hx => specNameOk x wx hx
 go_enter Tryz.func63, Tryz.ntmps63
 go_wp2_with fail
 go_loopw [3] (fun i wr => ∃ k : Nat, k ≤ s.size ∧ i = .int .i64 k ∧ dotP s (s.size + 1) 0 = dotP s (s.size + 1 - k) k ∧ Below w.heap.size w wr) (fun i _ => s.size - (intOf i).toNat)
 case atStart => exact ⟨0, Nat.zero_le _, rfl, rfl, Below.refl _ _⟩
 case round =>
  obtain ⟨k, hk, rfl, hd, hbe⟩ := hrel
  have HD : Hid (dotP s (s.size + 1) 0 = dotP s (s.size + 1 - k) k) := hd
  clear hd
  by_cases hlt : k < s.size
  ·have hb := Lx.byt_lt s k
   have hbe1 := Lx.byt_eq s k hlt
   have hf : s.size + 1 - k = (s.size - k) + 1 := by omega
   by_cases h46 : Lx.byt s k = 46
   ·have HR : Hid (dottedP s = (Lx.nameOkP (s.extract 0 k) && Lx.nameOkP (s.extract (k + 1) s.size))) := by
     show _ = _
     unfold dottedP
     rw [HD.out, hf, dotP_hit hlt h46]
    have e1 : (s.extract 0 k).size ≤ 140737488355328 := by rw [ByteArray.size_extract]; omega
    have e2 : (s.extract (k + 1) s.size).size ≤ 140737488355328 := by rw [ByteArray.size_extract]; omega
    have H1 : Hid (∀ wx : World, Calls Tryz.prog 48 #[.string (s.extract 0 k)] wx fun e w' => e = .returned (.bool (Lx.nameOkP (s.extract 0 k))) ∧ Below wx.heap.size wx w') := fun wx => HN.out _ wx e1
    have H2 : Hid (∀ wx : World, Calls Tryz.prog 48 #[.string (s.extract (k + 1) s.size)] wx fun e w' => e = .returned (.bool (Lx.nameOkP (s.extract (k + 1) s.size))) ∧ Below wx.heap.size wx w') := fun wx => HN.out _ wx e2
    rw [h46] at hbe1
    have hk0 : (0 : Int) ≤ (k : Int) := by omega
    have hk1 : (k : Int) ≤ (s.size : Int) := by omega
    have hk2 : (k : Int) + 1 ≤ (s.size : Int) := by omega
    clear h46 HD HN e1 e2 hf
    generalize Lx.nameOkP (s.extract 0 k) = r1 at *
    generalize Lx.nameOkP (s.extract (k + 1) s.size) = r2 at *
    cases r1 with
    | false =>
     go_wp2_with fail
     refine (H1.out _).mono ?_
     rintro e w2 ⟨rfl, hb2⟩
     go_wp2_with fail
     go_ret
     exact ⟨by rw [HR.out]; rfl, hbe.trans (hb2.mono hbe.size)⟩
    | true =>
     go_wp2_with fail
     refine (H1.out _).mono ?_
     rintro e w2 ⟨rfl, hb2⟩
     have hbe2 := hbe.trans (hb2.mono hbe.size)
     go_wp2_with fail
     refine (H2.out _).mono ?_
     rintro e w3 ⟨rfl, hb3⟩
     go_wp2_with fail
     go_ret
     exact ⟨by rw [HR.out]; rfl, hbe2.trans (hb3.mono hbe2.size)⟩
   ·have HD2 : Hid (dotP s (s.size + 1) 0 = dotP s (s.size + 1 - (k + 1)) (k + 1)) := by
     show _ = _
     rw [HD.out, hf, dotP_skip hlt h46, show s.size + 1 - (k + 1) = s.size - k by omega]
    have hne : ¬ ((Lx.byt s k : Nat) : Int) = 46 := by omega
    clear hf HN
    go_wp2_with fail
    go_roundw
    case rel => exact ⟨k + 1, by omega, by go_num, HD2.out, hbe⟩
    case measure => simp [intOf]; omega
  ·have HR : Hid (dottedP s = Lx.nameOkP s) := by
    show _ = _
    unfold dottedP
    rw [HD.out, dotP_end hlt]
   have H1 := HN.out s wr hs
   have H12 : Hid (type_of% H1) := H1
   clear H1 HN HD
   generalize Lx.nameOkP s = R at *
   go_wp2_with fail
   refine H12.out.mono ?_
   rintro e w2 ⟨rfl, hb2⟩
   go_wp2_with fail
   go_ret
   exact ⟨by rw [HR.out]; rfl, hbe.trans (hb2.mono hbe.size)⟩
set_option maxHeartbeats 800000 in
set_option maxRecDepth 100000 in
theorem specPlain (kd : Int) (nm : ByteArray) (an ak : Option Addr) (ln cn lk ck : Nat) (w : World) :
  Calls Tryz.prog 62 #[.agg #[.int .i64 kd, .string nm, .slice an ln cn, .slice ak lk ck]] w fun e w' => e = .returned (.bool (decide (nm.size = 0) && decide (ln = 0) && decide (lk = 0))) ∧ Below w.heap.size w w' := by
 have hB1 : Below w.heap.size w (w.alloc (.cells #[.int .i64 kd, .string nm, .slice an ln cn, .slice ak lk ck] 30)) := (Below.refl _ _).alloc (Nat.le_refl _) _
 obtain ⟨R, hR⟩ : ∃ R, R = (decide (nm.size = 0) && decide (ln = 0) && decide (lk = 0)) := ⟨_, rfl⟩
 rw [← hR]
 by_cases h1 : nm.size = 0
 ·have e1 := isEmpty_of h1
  by_cases h2 : ln = 0
  ·subst h2
   by_cases h3 : lk = 0
   ·subst h3
    have HR : Hid (R = true) := by show R = true; rw [hR]; simp [h1]
    clear h1 hR
    go_enter Tryz.func62, Tryz.ntmps62
    go_wp2
    go_ret
    exact ⟨by rw [HR.out]; rfl, hB1⟩
   ·have HR : Hid (R = false) := by show R = false; rw [hR]; simp [h3]
    have h3i : ((lk : Int) == 0) = false := by rw [beq_eq_false_iff_ne]; omega
    clear h1 hR
    go_enter Tryz.func62, Tryz.ntmps62
    go_wp2
    go_ret
    exact ⟨by rw [HR.out]; rfl, hB1⟩
  ·have HR : Hid (R = false) := by show R = false; rw [hR]; simp [h2]
   have h2i : ((ln : Int) == 0) = false := by rw [beq_eq_false_iff_ne]; omega
   clear h1 hR
   go_enter Tryz.func62, Tryz.ntmps62
   go_wp2
   go_ret
   exact ⟨by rw [HR.out]; rfl, hB1⟩
 ·have e1 := isEmpty_no (s := nm) (by omega)
  have HR : Hid (R = false) := by show R = false; rw [hR]; simp [h1]
  clear h1 hR
  go_enter Tryz.func62, Tryz.ntmps62
  go_wp2
  go_ret
  exact ⟨by rw [HR.out]; rfl, hB1⟩
end Go.Proofs.YtbojmbeopnlmiaaGreatDoor

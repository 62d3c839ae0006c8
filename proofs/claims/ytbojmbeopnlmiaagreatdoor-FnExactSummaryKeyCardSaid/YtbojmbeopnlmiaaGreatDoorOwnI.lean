/-
 The walks of impl.ascends and impl.hasOwnAlone.
-/
import Derived.Test.YtbojmbeopnlmiaaGreatDoorRightV
namespace Go.Proofs.YtbojmbeopnlmiaaGreatDoor
open Go.RowKit
def Ascend (ts : List ByteArray) : Prop := ∀ i (h : i < ts.length), ∀ _ : 0 < i, lessB (ts[i - 1]'(by omega)) ts[i]
theorem less_yes {a b : ByteArray} (h : lessB a b) : Op.bytesLess a.toList b.toList = true := by
 rw [bytesLess_eq, Lib.toList_data, Lib.toList_data]; exact decide_eq_true h
theorem less_no {a b : ByteArray} (h : ¬ lessB a b) : Op.bytesLess a.toList b.toList = false := by
 rw [bytesLess_eq, Lib.toList_data, Lib.toList_data]; exact decide_eq_false h
set_option maxHeartbeats 800000 in
set_option maxRecDepth 100000 in
open Classical in
theorem implAscends (v : Value) (ts : List ByteArray) (w : World) (hT : Texts w v ts) (hl : ts.length ≤ 1048577) :
  Calls Tryz.prog 128 #[v] w fun e w' => e = .returned (.bool (decide (Ascend ts))) ∧ Below w.heap.size w w' := by
 obtain ⟨a, cap, rfl, hc⟩ : ∃ a cap, v = .slice a ts.length cap ∧ ∀ j (h : j < ts.length), ∃ b off, a = some ⟨b, off, none⟩ ∧ w.cell? ⟨b, off + j, none⟩ = some (.string ts[j]) := by
  rcases hT with ⟨h, a, cap, e⟩ | ⟨b, off, cap, e, hc⟩
  ·subst h; exact ⟨a, cap, e, fun j hj => absurd hj (by simp)⟩
  ·exact ⟨_, cap, e, fun j hj => ⟨b, off, rfl, hc j hj⟩⟩
 have HC : Hid (type_of% hc) := hc
 obtain ⟨RR, hRR⟩ : ∃ RR, RR = decide (Ascend ts) := ⟨_, rfl⟩
 rw [← hRR]
 have HNO : Hid (¬ Ascend ts → RR = false) := fun h => by rw [hRR]; exact decide_eq_false h
 have HYES : Hid (Ascend ts → RR = true) := fun h => by rw [hRR]; exact decide_eq_true h
 clear hRR hT hc
 go_enter Tryz.func128, Tryz.ntmps128
 go_wp2_with fail
 go_loopw [3] (fun i wr => ∃ m : Nat, m ≤ ts.length ∧ i = .int .i64 ((m + 1 : Nat) : Int) ∧ (∀ j (hj : j < ts.length), j < m + 1 → ∀ _ : 0 < j, lessB (ts[j - 1]'(by omega)) ts[j]) ∧ Below w.heap.size w wr) (fun i _ => ts.length + 1 - (intOf i).toNat)
 case atStart => exact ⟨0, Nat.zero_le _, rfl, fun j hj h h0 => absurd h0 (by omega), Below.refl _ _⟩
 case round =>
  obtain ⟨m, hm, rfl, hall, hbe⟩ := hrel
  have HALL : Hid (type_of% hall) := hall
  clear hall
  by_cases hlt : m + 1 < ts.length
  ·obtain ⟨b, off, rfl, c1⟩ := HC.out (m + 1) hlt
   obtain ⟨b', off', e', c0⟩ := HC.out m (by omega)
   simp only [Option.some.injEq, Addr.mk.injEq, and_true] at e'
   obtain ⟨rfl, rfl⟩ := e'
   have hb : b < w.heap.size := World.block_lt_of_cell? w ⟨b, off + m, none⟩ c0
   have C1 := (hbe.cell (p := ⟨b, off + (m + 1), none⟩) hb).trans c1
   have C0 := (hbe.cell (p := ⟨b, off + m, none⟩) hb).trans c0
   have hm0 : (0 : Int) ≤ (m : Int) := by omega
   have hm1 : (m : Int) < (ts.length : Int) := by omega
   have hm2 : (m : Int) + 1 < (ts.length : Int) := by omega
   by_cases hls : lessB ts[m] ts[m + 1]
   ·have HA2 : Hid (∀ j (hj : j < ts.length), j < m + 1 + 1 → ∀ _ : 0 < j, lessB (ts[j - 1]'(by omega)) ts[j]) := fun j hj hjk h0 => by
     by_cases c : j = m + 1
     ·subst c; exact hls
     ·exact HALL.out j hj (by omega) h0
    have hcmp := less_yes hls
    clear c0 c1 hls HALL HNO HYES HC
    generalize ts[m + 1] = x at *
    generalize ts[m]'(by omega) = y at *
    go_wp2_with fail
    go_quiet (fail)
    go_wp2_with fail
    go_roundw
    case rel => exact ⟨m + 1, by omega, by go_num, HA2.out, below_drewN hbe _⟩
    case measure => simp [intOf]; omega
   ·have HR : Hid (RR = false) := HNO.out fun h => hls (h (m + 1) hlt (by omega))
    have hcmp := less_no hls
    clear c0 c1 hls HALL HNO HYES HC
    generalize ts[m + 1] = x at *
    generalize ts[m]'(by omega) = y at *
    go_wp2_with fail
    go_quiet (fail)
    go_wp2_with fail
    go_ret
    exact ⟨by rw [HR.out]; rfl, below_drewN hbe _⟩
  ·have HR : Hid (RR = true) := HYES.out fun i h h0 => HALL.out i h (by omega) h0
   have hm2 : ¬ (m : Int) + 1 < (ts.length : Int) := by omega
   clear HALL HNO HYES HC
   go_wp2_with fail
   go_ret
   exact ⟨by rw [HR.out]; rfl, hbe⟩
def ownAlone (kd : Int) (nm : ByteArray) (ln lk : Nat) : Bool := decide (kd = 4 ∨ nm.size = 0) && decide (kd = 5 ∨ ln = 0) && decide (5 ≤ kd ∨ lk = 0)
set_option maxHeartbeats 1600000 in
set_option maxRecDepth 100000 in
theorem implOwnAlone (kd : Int) (nm : ByteArray) (an ak : Option Addr) (ln cn lk ck : Nat) (w : World) :
  Calls Tryz.prog 94 #[.agg #[.int .i64 kd, .string nm, .slice an ln cn, .slice ak lk ck]] w fun e w' => e = .returned (.bool (ownAlone kd nm ln lk)) ∧ Below w.heap.size w w' := by
 have hB1 : Below w.heap.size w (w.alloc (.cells #[.int .i64 kd, .string nm, .slice an ln cn, .slice ak lk ck] 30)) := (Below.refl _ _).alloc (Nat.le_refl _) _
 unfold ownAlone
 obtain ⟨N, hN⟩ : ∃ N, N = decide (kd = 4 ∨ nm.size = 0) := ⟨_, rfl⟩
 obtain ⟨F, hF⟩ : ∃ F, F = decide (kd = 5 ∨ ln = 0) := ⟨_, rfl⟩
 obtain ⟨K, hK⟩ : ∃ K, K = decide (5 ≤ kd ∨ lk = 0) := ⟨_, rfl⟩
 rw [← hN, ← hF, ← hK]
 have HNC : ((kd == 4) = true ∧ N = true) ∨ ((kd == 4) = false ∧ nm.toList.isEmpty = true ∧ N = true) ∨ ((kd == 4) = false ∧ nm.toList.isEmpty = false ∧ N = false) := by
  by_cases h4 : kd = 4
  ·exact .inl ⟨beq_iff_eq.2 h4, by rw [hN]; exact decide_eq_true (.inl h4)⟩
  ·by_cases h0 : nm.size = 0
   ·exact .inr (.inl ⟨beq_eq_false_iff_ne.2 h4, isEmpty_of h0, by rw [hN]; exact decide_eq_true (.inr h0)⟩)
   ·exact .inr (.inr ⟨beq_eq_false_iff_ne.2 h4, isEmpty_no (by omega), by rw [hN]; exact decide_eq_false (by omega)⟩)
 have HFC : ((kd == 5) = true ∧ F = true) ∨ ((kd == 5) = false ∧ ((ln : Int) == 0) = true ∧ F = true) ∨ ((kd == 5) = false ∧ ((ln : Int) == 0) = false ∧ F = false) := by
  by_cases h4 : kd = 5
  ·exact .inl ⟨beq_iff_eq.2 h4, by rw [hF]; exact decide_eq_true (.inl h4)⟩
  ·by_cases h0 : ln = 0
   ·exact .inr (.inl ⟨beq_eq_false_iff_ne.2 h4, by rw [beq_iff_eq]; omega, by rw [hF]; exact decide_eq_true (.inr h0)⟩)
   ·exact .inr (.inr ⟨beq_eq_false_iff_ne.2 h4, by rw [beq_eq_false_iff_ne]; omega, by rw [hF]; exact decide_eq_false (by omega)⟩)
 have HKC : (decide (5 ≤ kd) = true ∧ K = true) ∨ (decide (5 ≤ kd) = false ∧ ((lk : Int) == 0) = true ∧ K = true) ∨ (decide (5 ≤ kd) = false ∧ ((lk : Int) == 0) = false ∧ K = false) := by
  by_cases h4 : 5 ≤ kd
  ·exact .inl ⟨decide_eq_true h4, by rw [hK]; exact decide_eq_true (.inl h4)⟩
  ·by_cases h0 : lk = 0
   ·exact .inr (.inl ⟨decide_eq_false h4, by rw [beq_iff_eq]; omega, by rw [hK]; exact decide_eq_true (.inr h0)⟩)
   ·exact .inr (.inr ⟨decide_eq_false h4, by rw [beq_eq_false_iff_ne]; omega, by rw [hK]; exact decide_eq_false (by omega)⟩)
 clear hN hF hK
 rcases HNC with ⟨g4, rfl⟩ | ⟨g4, e1, rfl⟩ | ⟨g4, e1, rfl⟩
 all_goals rcases HFC with ⟨g5, rfl⟩ | ⟨g5, e2, rfl⟩ | ⟨g5, e2, rfl⟩
 all_goals rcases HKC with ⟨g6, rfl⟩ | ⟨g6, e3, rfl⟩ | ⟨g6, e3, rfl⟩
 all_goals
  go_enter Tryz.func94, Tryz.ntmps94
  go_wp2
  go_ret
  exact ⟨rfl, hB1⟩
end Go.Proofs.YtbojmbeopnlmiaaGreatDoor

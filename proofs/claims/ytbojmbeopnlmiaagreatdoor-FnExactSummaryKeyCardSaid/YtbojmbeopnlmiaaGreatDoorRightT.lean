/-
 The walk of spec.l03Right at a record.
-/
import Derived.Test.YtbojmbeopnlmiaaGreatDoorRightS
namespace Go.Proofs.YtbojmbeopnlmiaaGreatDoor
open Go.RowKit
open Go.Sort (grow)
theorem leq_no {a b : ByteArray} (h : lessB b a) : (Op.bytesLess a.toList b.toList || a.toList == b.toList) = false := by
 rw [bytesLess_eq, Lib.toList_data, Lib.toList_data, Bool.or_eq_false_iff]
 refine ⟨decide_eq_false fun k => List.lt_irrefl _ (List.lt_trans h k), ?_⟩
 rw [beq_eq_false_iff_ne]
 intro e
 unfold lessB at h
 rw [e] at h
 exact List.lt_irrefl _ h
theorem leq_yes {a b : ByteArray} (h : ¬ lessB b a) : (Op.bytesLess a.toList b.toList || a.toList == b.toList) = true := by
 rw [bytesLess_eq, Lib.toList_data, Lib.toList_data, Bool.or_eq_true]
 by_cases k : a.data.toList < b.data.toList
 ·exact .inl (decide_eq_true k)
 ·exact .inr (beq_iff_eq.2 (List.le_antisymm h k))
set_option maxHeartbeats 1600000 in
set_option maxRecDepth 100000 in
open Classical in
theorem specRight5 (n : Nat) (ih : RightAt n) (nm : ByteArray) (nms : List ByteArray) (ks : List Ty) (an : Option Addr) (ln cn : Nat) (vk : Value) (d : Int) (w : World) (hln : ln = nms.length) (hnm : nm.size ≤ 1048576) (hrow : RowAt w (TyAt w n) vk ks) (hbk : rowBulk n ks ≤ 1048576) (hd1 : -1 ≤ d) (hd2 : d ≤ 12) (hT : ∀ j (h : j < nms.length), ∃ b off, an = some ⟨b, off, none⟩ ∧ w.cell? ⟨b, off + j, none⟩ = some (.string nms[j])) (hns : ∀ x ∈ nms, x.size ≤ 1048576) (hll : nms.length ≤ 1048576) :
  Calls Tryz.prog 38 #[.agg #[.int .i64 5, .string nm, .slice an ln cn, vk], .int .i64 d] w fun e w' => e = .returned (.bool (decide (Right (n + 1) (.mk 5 nm nms ks) d))) ∧ Below w.heap.size w w' := by
 obtain ⟨av, capv, rfl, hel⟩ := rowOpen hrow
 have hlen : ks.length ≤ 1048576 := by unfold rowBulk at hbk; omega
 obtain ⟨RR, hRR⟩ : ∃ RR, RR = decide (Right (n + 1) (.mk 5 nm nms ks) d) := ⟨_, rfl⟩
 rw [← hRR]
 have HNO : Hid (¬ Right (n + 1) (.mk 5 nm nms ks) d → RR = false) := fun h => by rw [hRR]; exact decide_eq_false h
 have HYES : Hid (Right (n + 1) (.mk 5 nm nms ks) d → RR = true) := fun h => by rw [hRR]; exact decide_eq_true h
 clear hRR
 have HEL : Hid (type_of% hel) := hel
 have HRK : Hid (0 ≤ d → ∀ k (hk : k < ks.length) (cs : List Value) (wx : World), TyAt wx n cs ks[k] → Calls Tryz.prog 38 #[.agg cs.toArray, .int .i64 (d - 1)] wx fun e w' => e = .returned (.bool (decide (Right n ks[k] (d - 1)))) ∧ Below wx.heap.size wx w') := fun h0 k hk cs wx h => ih cs ks[k] (d - 1) wx h (by have := kid_bulk n ks k hk; unfold rowBulk at hbk; omega) (by omega) (by omega)
 have HBX : Hid (∀ wx : World, Below (w.heap.size + 1) (w.alloc (.cells #[.int .i64 5, .string nm, .slice an ln cn, .slice av ks.length capv] 30)) wx → (wx.cell? ⟨w.heap.size, 0, none⟩ = some (.int .i64 5) ∧ wx.cell? ⟨w.heap.size, 1, none⟩ = some (.string nm) ∧ wx.cell? ⟨w.heap.size, 2, none⟩ = some (.slice an ln cn) ∧ wx.cell? ⟨w.heap.size, 3, none⟩ = some (.slice av ks.length capv)) ∧ Below w.heap.size w wx ∧ w.heap.size + 1 ≤ wx.heap.size) := fun wx hx => boxedR hx
 have HLN : Hid (ln = nms.length) := hln
 have HTN : Hid (type_of% hT) := hT
 have HSZ : Hid (type_of% hns) := hns
 have hln20 : ln ≤ 1048576 := by omega
 clear hrow hel ih hln hbk hd1 hT hns hll
 by_cases hneg : d < 0
 ·have HR : Hid (RR = false) := HNO.out fun h => by have := h.1; omega
  clear HNO HYES HEL HRK HBX
  go_enter Tryz.func38, Tryz.ntmps38
  go_wp2_with fail
  go_ret
  exact ⟨by rw [HR.out]; rfl, (Below.refl _ _).alloc (Nat.le_refl _) _⟩
 ·go_enter Tryz.func38, Tryz.ntmps38
  go_wp2_with fail
  go_loopw [5] (fun i wr => ∃ k : Nat, k ≤ ks.length ∧ i = .int .i64 k ∧ (∀ j (hj : j < ks.length), j < k → Right n ks[j] (d - 1)) ∧ Below (w.heap.size + 1) (w.alloc (.cells #[.int .i64 5, .string nm, .slice an ln cn, .slice av ks.length capv] 30)) wr) (fun i _ => ks.length - (intOf i).toNat)
  case atStart => exact ⟨0, Nat.zero_le _, rfl, fun j _ h => absurd h (by omega), Below.refl _ _⟩
  case round =>
   obtain ⟨k, hk, rfl, hall, D⟩ := hrel
   have HALL : Hid (type_of% hall) := hall
   clear hall
   obtain ⟨⟨b0, b1, b2, b3⟩, hbw, hz⟩ := HBX.out wr D
   by_cases hlt : k < ks.length
   ·obtain ⟨b, off, x0, x1, x2, x3, rfl, hba, hta, a0, a1, a2, a3⟩ := HEL.out k hlt
    have A0 := (hbw.cell (p := ⟨b, off + k * 4, none⟩) hba).trans a0
    have A1 := (hbw.cell (p := ⟨b, off + k * 4 + 1, none⟩) hba).trans a1
    have A2 := (hbw.cell (p := ⟨b, off + k * 4 + 2, none⟩) hba).trans a2
    have A3 := (hbw.cell (p := ⟨b, off + k * 4 + 3, none⟩) hba).trans a3
    have HC0 := HRK.out (by omega) k hlt [x0, x1, x2, x3] wr (hta.below hbw)
    by_cases hr : Right n ks[k] (d - 1)
    ·rw [decide_eq_true hr] at HC0
     have HC : Hid (type_of% HC0) := HC0
     have HA2 : Hid (∀ j (hj : j < ks.length), j < k + 1 → Right n ks[j] (d - 1)) := fun j hj hjk => by
      by_cases c : j = k
      ·subst c; exact hr
      ·exact HALL.out j hj (by omega)
     clear a0 a1 a2 a3 HC0 hta HEL HRK HALL hr HNO HYES
     go_wp2_with fail
     refine HC.out.mono ?_
     rintro e w2 ⟨rfl, hb2⟩
     go_wp2_with fail
     go_roundw
     case rel => exact ⟨k + 1, by omega, by go_num, HA2.out, D.trans (hb2.mono hz)⟩
     case measure => simp [intOf]; omega
    ·rw [decide_eq_false hr] at HC0
     have HC : Hid (type_of% HC0) := HC0
     have HR : Hid (RR = false) := HNO.out fun h => hr (h.2.1 _ (List.getElem_mem hlt))
     clear a0 a1 a2 a3 HC0 hta HEL HRK HALL hr HNO HYES
     go_wp2_with fail
     refine HC.out.mono ?_
     rintro e w2 ⟨rfl, hb2⟩
     go_wp2_with fail
     go_ret
     exact ⟨by rw [HR.out]; rfl, hbw.trans (hb2.mono (by omega))⟩
   ·have HKS : Hid (∀ q ∈ ks, Right n q (d - 1)) := fun q hq => by
     obtain ⟨j, hj, rfl⟩ := List.getElem_of_mem hq
     exact HALL.out j hj (by omega)
    clear HALL HRK
    have HOW : Hid (Right (n + 1) (.mk 5 nm nms ks) d → (∀ i (h : i < nms.length), Lx.nameOkP nms[i] = true ∧ ∀ h0 : 0 < i, lessB (nms[i - 1]'(by omega)) nms[i]) ∧ nm.size = 0 ∧ nms.length = ks.length) := fun h => by
     rcases h.2.2 with ⟨q, _⟩ | ⟨q, _⟩ | ⟨_, q1, q2, q3⟩ | ⟨q, _⟩ | ⟨q, _⟩
     ·simp at q
     ·simp at q
     ·exact ⟨q1, q2, q3⟩
     ·simp at q
     ·simp at q
    have HYE : Hid ((∀ i (h : i < nms.length), Lx.nameOkP nms[i] = true ∧ ∀ h0 : 0 < i, lessB (nms[i - 1]'(by omega)) nms[i]) → nm.size = 0 → nms.length = ks.length → RR = true) := fun q1 q2 q3 => HYES.out ⟨by omega, HKS.out, .inr (.inr (.inl ⟨rfl, q1, q2, q3⟩))⟩
    clear HKS HYES HEL
    go_wp2_with fail
    clear b0 b1 b2 b3 hbw hz
    go_loopw [6] (fun i wr => ∃ k : Nat, k ≤ ln ∧ i = .int .i64 k ∧ (∀ j (hj : j < nms.length), j < k → Lx.nameOkP nms[j] = true ∧ ∀ h0 : 0 < j, lessB (nms[j - 1]'(by omega)) nms[j]) ∧ Below (w.heap.size + 1) (w.alloc (.cells #[.int .i64 5, .string nm, .slice an ln cn, .slice av ks.length capv] 30)) wr) (fun i _ => ln - (intOf i).toNat)
    case atStart => exact ⟨0, Nat.zero_le _, rfl, fun j _ h => absurd h (by omega), D⟩
    case round =>
     clear D
     obtain ⟨k, hk, rfl, hall, D⟩ := hrel
     have HALL : Hid (type_of% hall) := hall
     clear hall
     obtain ⟨⟨b0, b1, b2, b3⟩, hbw, hz⟩ := HBX.out wr D
     by_cases hlt : k < ln
     ·have hlk : k < nms.length := by have := HLN.out; omega
      obtain ⟨nb, no, rfl, n0⟩ := HTN.out k hlk
      have hnb : nb < w.heap.size := World.block_lt_of_cell? w ⟨nb, no + k, none⟩ n0
      have N0 := (hbw.cell (p := ⟨nb, no + k, none⟩) hnb).trans n0
      have q2 : ∀ d os, (grow (redrawn wr d) os).cell? ⟨w.heap.size, 2, none⟩ = _ := fun d os => cell_regrown b2 d os
      have qN : ∀ d os, (grow (redrawn wr d) os).cell? ⟨nb, no + k, none⟩ = _ := fun d os => cell_regrown N0 d os
      have HNM : Hid (∀ wx : World, Calls Tryz.prog 48 #[.string nms[k]] wx fun e w' => e = .returned (.bool (Lx.nameOkP nms[k])) ∧ Below wx.heap.size wx w') := fun wx => specNameOk _ wx (by have := HSZ.out _ (List.getElem_mem hlk); omega)
      have hk0i : (0 : Int) ≤ (k : Int) := by omega
      have hk1i : (k : Int) < (ln : Int) := by omega
      cases hr : Lx.nameOkP nms[k] with
      | false =>
       have HR : Hid (RR = false) := HNO.out fun h => by
        have := ((HOW.out h).1 k hlk).1
        rw [hr] at this
        cases this
       rw [hr] at HNM
       clear hr HNO HYE HOW HALL HTN HSZ n0
       generalize nms[k] = x at *
       go_wp2_with fail
       refine wp_region_quiet_below (by kernel_rfl) (by kernel_rfl) ?_
       repeat (go_big_quiet_step (exact Calls.regrown_of (HNM.out _)))
       refine wpQuiet_nil ?_
       intro _ hw'
       obtain ⟨⟨dq, osq⟩, hw''⟩ := hw'
       subst hw''
       have D2 := D.trans ((below_regrown wr dq osq).mono hz)
       clear q2 qN
       try clear qM
       generalize grow (redrawn wr dq) osq = w2 at *
       go_wp2_with fail
       go_ret
       exact ⟨by rw [HR.out]; rfl, (HBX.out w2 D2).2.1⟩
      | true =>
       rw [hr] at HNM
       by_cases hk0 : k = 0
       ·have HA2 : Hid (∀ j (hj : j < nms.length), j < k + 1 → Lx.nameOkP nms[j] = true ∧ ∀ h0 : 0 < j, lessB (nms[j - 1]'(by omega)) nms[j]) := fun j hj hjk => by
         have e : j = k := by omega
         subst e
         exact ⟨hr, fun h0 => absurd h0 (by omega)⟩
        have hkp : decide ((0 : Int) < (k : Int)) = false := decide_eq_false (by omega)
        have hkn : decide (0 < k) = false := decide_eq_false (by omega)
        clear hr hk0 HNO HYE HOW HALL HTN HSZ n0
        generalize nms[k] = x at *
        go_wp2_with fail
        refine wp_region_quiet_below (by kernel_rfl) (by kernel_rfl) ?_
        repeat (go_big_quiet_step (exact Calls.regrown_of (HNM.out _)))
        refine wpQuiet_nil ?_
        intro _ hw'
        obtain ⟨⟨dq, osq⟩, hw''⟩ := hw'
        subst hw''
        have D2 := D.trans ((below_regrown wr dq osq).mono hz)
        clear q2 qN
        try clear qM
        generalize grow (redrawn wr dq) osq = w2 at *
        go_wp2_with fail
        go_roundw
        case rel => exact ⟨k + 1, by omega, by go_num, HA2.out, D2⟩
        case measure => simp [intOf]; omega
       ·obtain ⟨m, rfl⟩ : ∃ m, k = m + 1 := ⟨k - 1, by omega⟩
        have hlm : m < nms.length := by omega
        obtain ⟨nb', no', e', n1⟩ := HTN.out m hlm
        simp only [Option.some.injEq, Addr.mk.injEq, and_true] at e'
        obtain ⟨rfl, rfl⟩ := e'
        have N1 := (hbw.cell (p := ⟨nb, no + m, none⟩) hnb).trans n1
        have qM : ∀ d os, (grow (redrawn wr d) os).cell? ⟨nb, no + m, none⟩ = _ := fun d os => cell_regrown N1 d os
        have hm0 : (0 : Int) ≤ (m : Int) := by omega
        have hm1 : (m : Int) < (ln : Int) := by omega
        have hkp : (0 : Int) < (m : Int) + 1 := by omega
        by_cases hls : lessB nms[m] nms[m + 1]
        ·have HA2 : Hid (∀ j (hj : j < nms.length), j < m + 1 + 1 → Lx.nameOkP nms[j] = true ∧ ∀ h0 : 0 < j, lessB (nms[j - 1]'(by omega)) nms[j]) := fun j hj hjk => by
          by_cases c : j = m + 1
          ·subst c
           exact ⟨hr, fun h0 => hls⟩
          ·exact HALL.out j hj (by omega)
         have hcmp := leq_no hls
         clear hr hk0 hls HNO HYE HOW HALL HTN HSZ n0 n1
         generalize nms[m + 1] = x at *
         generalize nms[m] = y at *
         go_wp2_with fail
         refine wp_region_quiet_below (by kernel_rfl) (by kernel_rfl) ?_
         repeat (go_big_quiet_step (exact Calls.regrown_of (HNM.out _)))
         refine wpQuiet_nil ?_
         intro _ hw'
         obtain ⟨⟨dq, osq⟩, hw''⟩ := hw'
         subst hw''
         have D2 := D.trans ((below_regrown wr dq osq).mono hz)
         clear q2 qN
         try clear qM
         generalize grow (redrawn wr dq) osq = w2 at *
         go_wp2_with fail
         go_roundw
         case rel => exact ⟨m + 1 + 1, by omega, by go_num, HA2.out, D2⟩
         case measure => simp [intOf]; omega
        ·have HR : Hid (RR = false) := HNO.out fun h => hls (((HOW.out h).1 (m + 1) hlk).2 (by omega))
         have hcmp := leq_yes hls
         clear hr hk0 hls HNO HYE HOW HALL HTN HSZ n0 n1
         generalize nms[m + 1] = x at *
         generalize nms[m] = y at *
         go_wp2_with fail
         refine wp_region_quiet_below (by kernel_rfl) (by kernel_rfl) ?_
         repeat (go_big_quiet_step (exact Calls.regrown_of (HNM.out _)))
         refine wpQuiet_nil ?_
         intro _ hw'
         obtain ⟨⟨dq, osq⟩, hw''⟩ := hw'
         subst hw''
         have D2 := D.trans ((below_regrown wr dq osq).mono hz)
         clear q2 qN
         try clear qM
         generalize grow (redrawn wr dq) osq = w2 at *
         go_wp2_with fail
         go_ret
         exact ⟨by rw [HR.out]; rfl, (HBX.out w2 D2).2.1⟩
     ·have HNA : Hid (∀ i (h : i < nms.length), Lx.nameOkP nms[i] = true ∧ ∀ h0 : 0 < i, lessB (nms[i - 1]'(by omega)) nms[i]) := fun i h => HALL.out i h (by have := HLN.out; omega)
      clear HALL HTN HSZ
      by_cases h1 : nm.size = 0
      ·have e1 := isEmpty_of h1
       by_cases h2 : ln = ks.length
       ·have HR : Hid (RR = true) := HYE.out HNA.out h1 (by have := HLN.out; omega)
        have h2i : ((ln : Int) == (ks.length : Int)) = true := by rw [beq_iff_eq]; omega
        clear h1 h2 HNO HYE HOW HNA HLN
        go_wp2_with fail
        go_ret
        exact ⟨by rw [HR.out]; rfl, hbw⟩
       ·have HR : Hid (RR = false) := HNO.out fun h => h2 (by have := (HOW.out h).2.2; have := HLN.out; omega)
        have h2i : ((ln : Int) == (ks.length : Int)) = false := by rw [beq_eq_false_iff_ne]; omega
        clear h1 h2 HNO HYE HOW HNA HLN
        go_wp2_with fail
        go_ret
        exact ⟨by rw [HR.out]; rfl, hbw⟩
      ·have e1 := isEmpty_no (s := nm) (by omega)
       have HR : Hid (RR = false) := HNO.out fun h => h1 (HOW.out h).2.1
       clear h1 HNO HYE HOW HNA HLN
       go_wp2_with fail
       go_ret
       exact ⟨by rw [HR.out]; rfl, hbw⟩
open Go.Sort (grow)
set_option maxHeartbeats 1600000 in
set_option maxRecDepth 100000 in
open Classical in
theorem specRight7 (n : Nat) (ih : RightAt n) (nm : ByteArray) (nms : List ByteArray) (ks : List Ty) (an : Option Addr) (ln cn : Nat) (vk : Value) (d : Int) (w : World) (hln : ln = nms.length) (_hnm : nm.size ≤ 1048576) (hrow : RowAt w (TyAt w n) vk ks) (hbk : rowBulk n ks ≤ 1048576) (hd1 : -1 ≤ d) (hd2 : d ≤ 12) :
  Calls Tryz.prog 38 #[.agg #[.int .i64 7, .string nm, .slice an ln cn, vk], .int .i64 d] w fun e w' => e = .returned (.bool (decide (Right (n + 1) (.mk 7 nm nms ks) d))) ∧ Below w.heap.size w w' := by
 obtain ⟨av, capv, rfl, hel⟩ := rowOpen hrow
 have hlen : ks.length ≤ 1048576 := by unfold rowBulk at hbk; omega
 obtain ⟨RR, hRR⟩ : ∃ RR, RR = decide (Right (n + 1) (.mk 7 nm nms ks) d) := ⟨_, rfl⟩
 rw [← hRR]
 have HNO : Hid (¬ Right (n + 1) (.mk 7 nm nms ks) d → RR = false) := fun h => by rw [hRR]; exact decide_eq_false h
 have HYES : Hid (Right (n + 1) (.mk 7 nm nms ks) d → RR = true) := fun h => by rw [hRR]; exact decide_eq_true h
 clear hRR
 have HEL : Hid (type_of% hel) := hel
 have HRK : Hid (0 ≤ d → ∀ k (hk : k < ks.length) (cs : List Value) (wx : World), TyAt wx n cs ks[k] → Calls Tryz.prog 38 #[.agg cs.toArray, .int .i64 (d - 1)] wx fun e w' => e = .returned (.bool (decide (Right n ks[k] (d - 1)))) ∧ Below wx.heap.size wx w') := fun h0 k hk cs wx h => ih cs ks[k] (d - 1) wx h (by have := kid_bulk n ks k hk; unfold rowBulk at hbk; omega) (by omega) (by omega)
 have HBX : Hid (∀ wx : World, Below (w.heap.size + 1) (w.alloc (.cells #[.int .i64 7, .string nm, .slice an ln cn, .slice av ks.length capv] 30)) wx → (wx.cell? ⟨w.heap.size, 0, none⟩ = some (.int .i64 7) ∧ wx.cell? ⟨w.heap.size, 1, none⟩ = some (.string nm) ∧ wx.cell? ⟨w.heap.size, 2, none⟩ = some (.slice an ln cn) ∧ wx.cell? ⟨w.heap.size, 3, none⟩ = some (.slice av ks.length capv)) ∧ Below w.heap.size w wx ∧ w.heap.size + 1 ≤ wx.heap.size) := fun wx hx => boxedR hx
 have HLN : Hid (ln = nms.length) := hln
 have HKB : Hid (∀ k (hk : k < ks.length), Ty.bulk n ks[k] ≤ 1048576) := fun k hk => by have := kid_bulk n ks k hk; unfold rowBulk at hbk; omega
 clear hrow hel ih hln hbk hd1
 by_cases hneg : d < 0
 ·have HR : Hid (RR = false) := HNO.out fun h => by have := h.1; omega
  clear HNO HYES HEL HRK HBX
  go_enter Tryz.func38, Tryz.ntmps38
  go_wp2_with fail
  go_ret
  exact ⟨by rw [HR.out]; rfl, (Below.refl _ _).alloc (Nat.le_refl _) _⟩
 ·go_enter Tryz.func38, Tryz.ntmps38
  go_wp2_with fail
  go_loopw [5] (fun i wr => ∃ k : Nat, k ≤ ks.length ∧ i = .int .i64 k ∧ (∀ j (hj : j < ks.length), j < k → Right n ks[j] (d - 1)) ∧ Below (w.heap.size + 1) (w.alloc (.cells #[.int .i64 7, .string nm, .slice an ln cn, .slice av ks.length capv] 30)) wr) (fun i _ => ks.length - (intOf i).toNat)
  case atStart => exact ⟨0, Nat.zero_le _, rfl, fun j _ h => absurd h (by omega), Below.refl _ _⟩
  case round =>
   obtain ⟨k, hk, rfl, hall, D⟩ := hrel
   have HALL : Hid (type_of% hall) := hall
   clear hall
   obtain ⟨⟨b0, b1, b2, b3⟩, hbw, hz⟩ := HBX.out wr D
   by_cases hlt : k < ks.length
   ·obtain ⟨b, off, x0, x1, x2, x3, rfl, hba, hta, a0, a1, a2, a3⟩ := HEL.out k hlt
    have A0 := (hbw.cell (p := ⟨b, off + k * 4, none⟩) hba).trans a0
    have A1 := (hbw.cell (p := ⟨b, off + k * 4 + 1, none⟩) hba).trans a1
    have A2 := (hbw.cell (p := ⟨b, off + k * 4 + 2, none⟩) hba).trans a2
    have A3 := (hbw.cell (p := ⟨b, off + k * 4 + 3, none⟩) hba).trans a3
    have HC0 := HRK.out (by omega) k hlt [x0, x1, x2, x3] wr (hta.below hbw)
    by_cases hr : Right n ks[k] (d - 1)
    ·rw [decide_eq_true hr] at HC0
     have HC : Hid (type_of% HC0) := HC0
     have HA2 : Hid (∀ j (hj : j < ks.length), j < k + 1 → Right n ks[j] (d - 1)) := fun j hj hjk => by
      by_cases c : j = k
      ·subst c; exact hr
      ·exact HALL.out j hj (by omega)
     clear a0 a1 a2 a3 HC0 hta HEL HRK HALL hr HNO HYES
     go_wp2_with fail
     refine HC.out.mono ?_
     rintro e w2 ⟨rfl, hb2⟩
     go_wp2_with fail
     go_roundw
     case rel => exact ⟨k + 1, by omega, by go_num, HA2.out, D.trans (hb2.mono hz)⟩
     case measure => simp [intOf]; omega
    ·rw [decide_eq_false hr] at HC0
     have HC : Hid (type_of% HC0) := HC0
     have HR : Hid (RR = false) := HNO.out fun h => hr (h.2.1 _ (List.getElem_mem hlt))
     clear a0 a1 a2 a3 HC0 hta HEL HRK HALL hr HNO HYES
     go_wp2_with fail
     refine HC.out.mono ?_
     rintro e w2 ⟨rfl, hb2⟩
     go_wp2_with fail
     go_ret
     exact ⟨by rw [HR.out]; rfl, hbw.trans (hb2.mono (by omega))⟩
   ·have HKS : Hid (∀ q ∈ ks, Right n q (d - 1)) := fun q hq => by
     obtain ⟨j, hj, rfl⟩ := List.getElem_of_mem hq
     exact HALL.out j hj (by omega)
    clear HALL HRK
    have HOW : Hid (Right (n + 1) (.mk 7 nm nms ks) d → (∀ i (h : i < ks.length), (ks[i].kind ≠ 7 ∧ ks[i].kind ≠ 3) ∧ ∀ h0 : 0 < i, lessB (Ty.text n (ks[i - 1]'(by omega))) (Ty.text n ks[i])) ∧ nm.size = 0 ∧ nms.length = 0 ∧ 1 < ks.length) := fun h => by
     rcases h.2.2 with ⟨q, _⟩ | ⟨q, _⟩ | ⟨q, _⟩ | ⟨q, _⟩ | ⟨_, q1, q2, q3, q4⟩
     ·simp at q
     ·simp at q
     ·simp at q
     ·simp at q
     ·exact ⟨q1, q2, q3, q4⟩
    have HYE : Hid ((∀ i (h : i < ks.length), (ks[i].kind ≠ 7 ∧ ks[i].kind ≠ 3) ∧ ∀ h0 : 0 < i, lessB (Ty.text n (ks[i - 1]'(by omega))) (Ty.text n ks[i])) → nm.size = 0 → nms.length = 0 → 1 < ks.length → RR = true) := fun q1 q2 q3 q4 => HYES.out ⟨by omega, HKS.out, .inr (.inr (.inr (.inr ⟨rfl, q1, q2, q3, q4⟩)))⟩
    have HTX : Hid (∀ k (hk : k < ks.length) (cs : List Value) (wx : World), TyAt wx n cs ks[k] → Calls Tryz.prog 64 #[.agg cs.toArray] wx fun e w' => e = .returned (.string (Ty.text n ks[k])) ∧ Below wx.heap.size wx w') := fun k hk cs wx h => specText n cs ks[k] wx h (HKS.out _ (List.getElem_mem hk)).fine (HKB.out k hk)
    clear HKS HYES
    go_wp2_with fail
    clear b0 b1 b2 b3 hbw hz
    go_loopw [7] (fun i wr => ∃ k : Nat, k ≤ ks.length ∧ i = .int .i64 k ∧ (∀ j (hj : j < ks.length), j < k → (ks[j].kind ≠ 7 ∧ ks[j].kind ≠ 3) ∧ ∀ h0 : 0 < j, lessB (Ty.text n (ks[j - 1]'(by omega))) (Ty.text n ks[j])) ∧ Below (w.heap.size + 1) (w.alloc (.cells #[.int .i64 7, .string nm, .slice an ln cn, .slice av ks.length capv] 30)) wr) (fun i _ => ks.length - (intOf i).toNat)
    case atStart => exact ⟨0, Nat.zero_le _, rfl, fun j _ h => absurd h (by omega), D⟩
    case round =>
     clear D
     obtain ⟨k, hk, rfl, hall, D⟩ := hrel
     have HALL : Hid (type_of% hall) := hall
     clear hall
     obtain ⟨⟨b0, b1, b2, b3⟩, hbw, hz⟩ := HBX.out wr D
     by_cases hlt : k < ks.length
     ·obtain ⟨b, off, x0, x1, x2, x3, rfl, hba, hta, a0, a1, a2, a3⟩ := HEL.out k hlt
      have hx0 : x0 = .int .i64 ks[k].kind := by
       cases n with
       | zero => exact hta.elim
       | succ m => obtain ⟨_, _, e, _⟩ := hta; injection e
      subst hx0
      have A0 := (hbw.cell (p := ⟨b, off + k * 4, none⟩) hba).trans a0
      have A1 := (hbw.cell (p := ⟨b, off + k * 4 + 1, none⟩) hba).trans a1
      have A2 := (hbw.cell (p := ⟨b, off + k * 4 + 2, none⟩) hba).trans a2
      have A3 := (hbw.cell (p := ⟨b, off + k * 4 + 3, none⟩) hba).trans a3
      have q3 : ∀ d os, (grow (redrawn wr d) os).cell? ⟨w.heap.size, 3, none⟩ = _ := fun d os => cell_regrown b3 d os
      have qA0 : ∀ d os, (grow (redrawn wr d) os).cell? ⟨b, off + k * 4, none⟩ = _ := fun d os => cell_regrown A0 d os
      have qA1 : ∀ d os, (grow (redrawn wr d) os).cell? ⟨b, off + k * 4 + 1, none⟩ = _ := fun d os => cell_regrown A1 d os
      have qA2 : ∀ d os, (grow (redrawn wr d) os).cell? ⟨b, off + k * 4 + 2, none⟩ = _ := fun d os => cell_regrown A2 d os
      have qA3 : ∀ d os, (grow (redrawn wr d) os).cell? ⟨b, off + k * 4 + 3, none⟩ = _ := fun d os => cell_regrown A3 d os
      have HTA : Hid (∀ wx : World, Below wr.heap.size wr wx → Calls Tryz.prog 64 #[.agg #[.int .i64 ks[k].kind, x1, x2, x3]] wx fun e w' => e = .returned (.string (Ty.text n ks[k])) ∧ Below wx.heap.size wx w') := fun wx hx => HTX.out k hlt [.int .i64 ks[k].kind, x1, x2, x3] wx ((hta.below hbw).below hx)
      have HTB := HTA
      have hk0i : (0 : Int) ≤ (k : Int) := by omega
      have hk1i : (k : Int) < (ks.length : Int) := by omega
      by_cases hk7 : ks[k].kind = 7 ∨ ks[k].kind = 3
      ·have HR : Hid (RR = false) := HNO.out fun h => by
        have := ((HOW.out h).1 k hlt).1
        omega
       rcases hk7 with h7 | h3
       ·have g7 : (ks[k].kind == 7) = true := beq_iff_eq.2 h7
        clear h7 HNO HYE HOW HALL HTX HEL hta a0 a1 a2 a3 HKB
        generalize ks[k].kind = kk at *
        go_wp2_with fail
        refine wp_region_quiet_below (by kernel_rfl) (by kernel_rfl) ?_
        repeat (go_big_quiet_step (first | with_reducible exact Calls.regrown_of (HTA.out _ (below_regrown wr _ _)) | with_reducible exact Calls.regrown_of (HTB.out _ (below_regrown wr _ _))))
        refine wpQuiet_nil ?_
        intro _ hw'
        obtain ⟨⟨dq, osq⟩, hw''⟩ := hw'
        subst hw''
        have D2 := D.trans ((below_regrown wr dq osq).mono hz)
        clear q3 qA0 qA1 qA2 qA3
        try clear qB0 qB1 qB2 qB3
        generalize grow (redrawn wr dq) osq = w2 at *
        go_wp2_with fail
        go_ret
        exact ⟨by rw [HR.out]; rfl, (HBX.out w2 D2).2.1⟩
       ·have g7 : (ks[k].kind == 7) = false := beq_eq_false_iff_ne.2 (by omega)
        have g3 : (ks[k].kind == 3) = true := beq_iff_eq.2 h3
        clear h3 HNO HYE HOW HALL HTX HEL hta a0 a1 a2 a3 HKB
        generalize ks[k].kind = kk at *
        go_wp2_with fail
        refine wp_region_quiet_below (by kernel_rfl) (by kernel_rfl) ?_
        repeat (go_big_quiet_step (first | with_reducible exact Calls.regrown_of (HTA.out _ (below_regrown wr _ _)) | with_reducible exact Calls.regrown_of (HTB.out _ (below_regrown wr _ _))))
        refine wpQuiet_nil ?_
        intro _ hw'
        obtain ⟨⟨dq, osq⟩, hw''⟩ := hw'
        subst hw''
        have D2 := D.trans ((below_regrown wr dq osq).mono hz)
        clear q3 qA0 qA1 qA2 qA3
        try clear qB0 qB1 qB2 qB3
        generalize grow (redrawn wr dq) osq = w2 at *
        go_wp2_with fail
        go_ret
        exact ⟨by rw [HR.out]; rfl, (HBX.out w2 D2).2.1⟩
      ·have g7 : (ks[k].kind == 7) = false := beq_eq_false_iff_ne.2 (by omega)
       have g3 : (ks[k].kind == 3) = false := beq_eq_false_iff_ne.2 (by omega)
       by_cases hk0 : k = 0
       ·have HA2 : Hid (∀ j (hj : j < ks.length), j < k + 1 → (ks[j].kind ≠ 7 ∧ ks[j].kind ≠ 3) ∧ ∀ h0 : 0 < j, lessB (Ty.text n (ks[j - 1]'(by omega))) (Ty.text n ks[j])) := fun j hj hjk => by
         have e : j = k := by omega
         subst e
         exact ⟨by omega, fun h0 => absurd h0 (by omega)⟩
        have hkp : decide ((0 : Int) < (k : Int)) = false := decide_eq_false (by omega)
        have hkn : decide (0 < k) = false := decide_eq_false (by omega)
        clear hk0 hk7 HNO HYE HOW HALL HTX HEL hta a0 a1 a2 a3 HKB
        generalize ks[k].kind = kk at *
        go_wp2_with fail
        refine wp_region_quiet_below (by kernel_rfl) (by kernel_rfl) ?_
        repeat (go_big_quiet_step (first | with_reducible exact Calls.regrown_of (HTA.out _ (below_regrown wr _ _)) | with_reducible exact Calls.regrown_of (HTB.out _ (below_regrown wr _ _))))
        refine wpQuiet_nil ?_
        intro _ hw'
        obtain ⟨⟨dq, osq⟩, hw''⟩ := hw'
        subst hw''
        have D2 := D.trans ((below_regrown wr dq osq).mono hz)
        clear q3 qA0 qA1 qA2 qA3
        try clear qB0 qB1 qB2 qB3
        generalize grow (redrawn wr dq) osq = w2 at *
        go_wp2_with fail
        go_roundw
        case rel => exact ⟨k + 1, by omega, by go_num, HA2.out, D2⟩
        case measure => simp [intOf]; omega
       ·obtain ⟨m, rfl⟩ : ∃ m, k = m + 1 := ⟨k - 1, by omega⟩
        have hlm : m < ks.length := by omega
        obtain ⟨b', off', y0, y1, y2, y3, e', hbb, htb, d0, d1, d2, d3⟩ := HEL.out m hlm
        simp only [Option.some.injEq, Addr.mk.injEq, and_true] at e'
        obtain ⟨rfl, rfl⟩ := e'
        have B0 := (hbw.cell (p := ⟨b, off + m * 4, none⟩) hba).trans d0
        have B1 := (hbw.cell (p := ⟨b, off + m * 4 + 1, none⟩) hba).trans d1
        have B2 := (hbw.cell (p := ⟨b, off + m * 4 + 2, none⟩) hba).trans d2
        have B3 := (hbw.cell (p := ⟨b, off + m * 4 + 3, none⟩) hba).trans d3
        have qB0 : ∀ d os, (grow (redrawn wr d) os).cell? ⟨b, off + m * 4, none⟩ = _ := fun d os => cell_regrown B0 d os
        have qB1 : ∀ d os, (grow (redrawn wr d) os).cell? ⟨b, off + m * 4 + 1, none⟩ = _ := fun d os => cell_regrown B1 d os
        have qB2 : ∀ d os, (grow (redrawn wr d) os).cell? ⟨b, off + m * 4 + 2, none⟩ = _ := fun d os => cell_regrown B2 d os
        have qB3 : ∀ d os, (grow (redrawn wr d) os).cell? ⟨b, off + m * 4 + 3, none⟩ = _ := fun d os => cell_regrown B3 d os
        clear HTB
        have HTB : Hid (∀ wx : World, Below wr.heap.size wr wx → Calls Tryz.prog 64 #[.agg #[y0, y1, y2, y3]] wx fun e w' => e = .returned (.string (Ty.text n ks[m])) ∧ Below wx.heap.size wx w') := fun wx hx => HTX.out m hlm [y0, y1, y2, y3] wx ((htb.below hbw).below hx)
        have hm0 : (0 : Int) ≤ (m : Int) := by omega
        have hm1 : (m : Int) < (ks.length : Int) := by omega
        have hkp : (0 : Int) < (m : Int) + 1 := by omega
        by_cases hls : lessB (Ty.text n ks[m]) (Ty.text n ks[m + 1])
        ·have HA2 : Hid (∀ j (hj : j < ks.length), j < m + 1 + 1 → (ks[j].kind ≠ 7 ∧ ks[j].kind ≠ 3) ∧ ∀ h0 : 0 < j, lessB (Ty.text n (ks[j - 1]'(by omega))) (Ty.text n ks[j])) := fun j hj hjk => by
          by_cases c : j = m + 1
          ·subst c
           exact ⟨by omega, fun h0 => hls⟩
          ·exact HALL.out j hj (by omega)
         have hcmp := leq_no hls
         clear hk0 hk7 hls HNO HYE HOW HALL HTX HEL hta htb a0 a1 a2 a3 d0 d1 d2 d3 HKB
         generalize Ty.text n ks[m + 1] = X at *
         generalize Ty.text n ks[m] = Y at *
         generalize ks[m + 1].kind = kk at *
         go_wp2_with fail
         refine wp_region_quiet_below (by kernel_rfl) (by kernel_rfl) ?_
         repeat (go_big_quiet_step (first | with_reducible exact Calls.regrown_of (HTA.out _ (below_regrown wr _ _)) | with_reducible exact Calls.regrown_of (HTB.out _ (below_regrown wr _ _))))
         refine wpQuiet_nil ?_
         intro _ hw'
         obtain ⟨⟨dq, osq⟩, hw''⟩ := hw'
         subst hw''
         have D2 := D.trans ((below_regrown wr dq osq).mono hz)
         clear q3 qA0 qA1 qA2 qA3
         try clear qB0 qB1 qB2 qB3
         generalize grow (redrawn wr dq) osq = w2 at *
         go_wp2_with fail
         go_roundw
         case rel => exact ⟨m + 1 + 1, by omega, by go_num, HA2.out, D2⟩
         case measure => simp [intOf]; omega
        ·have HR : Hid (RR = false) := HNO.out fun h => hls (((HOW.out h).1 (m + 1) hlt).2 (by omega))
         have hcmp := leq_yes hls
         clear hk0 hk7 hls HNO HYE HOW HALL HTX HEL hta htb a0 a1 a2 a3 d0 d1 d2 d3 HKB
         generalize Ty.text n ks[m + 1] = X at *
         generalize Ty.text n ks[m] = Y at *
         generalize ks[m + 1].kind = kk at *
         go_wp2_with fail
         refine wp_region_quiet_below (by kernel_rfl) (by kernel_rfl) ?_
         repeat (go_big_quiet_step (first | with_reducible exact Calls.regrown_of (HTA.out _ (below_regrown wr _ _)) | with_reducible exact Calls.regrown_of (HTB.out _ (below_regrown wr _ _))))
         refine wpQuiet_nil ?_
         intro _ hw'
         obtain ⟨⟨dq, osq⟩, hw''⟩ := hw'
         subst hw''
         have D2 := D.trans ((below_regrown wr dq osq).mono hz)
         clear q3 qA0 qA1 qA2 qA3
         try clear qB0 qB1 qB2 qB3
         generalize grow (redrawn wr dq) osq = w2 at *
         go_wp2_with fail
         go_ret
         exact ⟨by rw [HR.out]; rfl, (HBX.out w2 D2).2.1⟩
     ·have HNA : Hid (∀ i (h : i < ks.length), (ks[i].kind ≠ 7 ∧ ks[i].kind ≠ 3) ∧ ∀ h0 : 0 < i, lessB (Ty.text n (ks[i - 1]'(by omega))) (Ty.text n ks[i])) := fun i h => HALL.out i h (by omega)
      clear HALL HTX HEL HKB
      by_cases h1 : nm.size = 0
      ·have e1 := isEmpty_of h1
       by_cases h2 : ln = 0
       ·have h2i : ((ln : Int) == 0) = true := by rw [beq_iff_eq]; omega
        by_cases h3 : 1 < ks.length
        ·have HR : Hid (RR = true) := HYE.out HNA.out h1 (by have := HLN.out; omega) h3
         have h3i : (1 : Int) < (ks.length : Int) := by omega
         clear h1 h2 HNO HYE HOW HNA HLN
         go_wp2_with fail
         go_ret
         exact ⟨by rw [HR.out]; rfl, hbw⟩
        ·have HR : Hid (RR = false) := HNO.out fun h => h3 (HOW.out h).2.2.2
         have h3i : ¬ (1 : Int) < (ks.length : Int) := by omega
         clear h1 h2 HNO HYE HOW HNA HLN
         go_wp2_with fail
         go_ret
         exact ⟨by rw [HR.out]; rfl, hbw⟩
       ·have HR : Hid (RR = false) := HNO.out fun h => h2 (by have := (HOW.out h).2.2.1; have := HLN.out; omega)
        have h2i : ((ln : Int) == 0) = false := by rw [beq_eq_false_iff_ne]; omega
        clear h1 h2 HNO HYE HOW HNA HLN
        go_wp2_with fail
        go_ret
        exact ⟨by rw [HR.out]; rfl, hbw⟩
      ·have e1 := isEmpty_no (s := nm) (by omega)
       have HR : Hid (RR = false) := HNO.out fun h => h1 (HOW.out h).2.1
       clear h1 HNO HYE HOW HNA HLN
       go_wp2_with fail
       go_ret
       exact ⟨by rw [HR.out]; rfl, hbw⟩
end Go.Proofs.YtbojmbeopnlmiaaGreatDoor

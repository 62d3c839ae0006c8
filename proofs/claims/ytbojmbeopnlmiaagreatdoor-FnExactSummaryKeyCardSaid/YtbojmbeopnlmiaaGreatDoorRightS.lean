/-
 When a type is right; and the walk of spec.l03Right at types without a list to be gone through.
-/
import Derived.Test.YtbojmbeopnlmiaaGreatDoorWordW
import Derived.Sort.Walk0
namespace Go.Proofs.YtbojmbeopnlmiaaGreatDoor
open Go.RowKit
def lessB (a b : ByteArray) : Prop := a.data.toList < b.data.toList
def OwnRight (n : Nat) (t : Ty) : Prop :=
 ((t.kind = 0 ∨ t.kind = 1 ∨ t.kind = 2 ∨ t.kind = 3) ∧ t.name.size = 0 ∧ t.names.length = 0 ∧ t.kids.length = 0) ∨
 (t.kind = 4 ∧ dottedP t.name = true ∧ t.names.length = 0 ∧ t.kids.length = 0) ∨
 (t.kind = 5 ∧ (∀ i (h : i < t.names.length), Lx.nameOkP t.names[i] = true ∧ ∀ h0 : 0 < i, lessB (t.names[i - 1]'(by omega)) t.names[i]) ∧ t.name.size = 0 ∧ t.names.length = t.kids.length) ∨
 (t.kind = 6 ∧ t.name.size = 0 ∧ t.names.length = 0 ∧ 0 < t.kids.length) ∨
 (t.kind = 7 ∧ (∀ i (h : i < t.kids.length), (t.kids[i].kind ≠ 7 ∧ t.kids[i].kind ≠ 3) ∧ ∀ h0 : 0 < i, lessB (Ty.text n (t.kids[i - 1]'(by omega))) (Ty.text n t.kids[i])) ∧ t.name.size = 0 ∧ t.names.length = 0 ∧ 1 < t.kids.length)
def Right : Nat → Ty → Int → Prop
 | 0, _, _ => False
 | n + 1, t, d => 0 ≤ d ∧ (∀ k ∈ t.kids, Right n k (d - 1)) ∧ OwnRight n t
theorem Right.fine {n : Nat} {t : Ty} {d : Int} (h : Right n t d) : Ty.fine n t := by
 induction n generalizing t d with
 | zero => exact h.elim
 | succ n ih =>
  obtain ⟨_, hk, ho⟩ := h
  refine ⟨fun e => ?_, fun e => ?_, fun k hkk => ih (hk k hkk)⟩
  ·rcases ho with ⟨h1, _⟩ | ⟨h1, _⟩ | ⟨_, _, _, h⟩ | ⟨h1, _⟩ | ⟨h1, _⟩
   ·omega
   ·omega
   ·exact h
   ·omega
   ·omega
  ·rcases ho with ⟨h1, _⟩ | ⟨h1, _⟩ | ⟨h1, _⟩ | ⟨_, _, _, h⟩ | ⟨h1, _⟩
   ·omega
   ·omega
   ·omega
   ·intro e2
    rw [e2] at h
    simp at h
   ·omega
open Classical in
def RightAt (n : Nat) : Prop := ∀ (cs : List Value) (t : Ty) (d : Int) (w : World), TyAt w n cs t → Ty.bulk n t ≤ 1048576 → -1 ≤ d → d ≤ 12 →
  Calls Tryz.prog 38 #[.agg cs.toArray, .int .i64 d] w fun e w' => e = .returned (.bool (decide (Right n t d))) ∧ Below w.heap.size w w'
theorem boxedR {w wx : World} {x0 x1 x2 x3 : Value} (hx : Below (w.heap.size + 1) (w.alloc (.cells #[x0, x1, x2, x3] 30)) wx) :
  (wx.cell? ⟨w.heap.size, 0, none⟩ = some x0 ∧ wx.cell? ⟨w.heap.size, 1, none⟩ = some x1 ∧ wx.cell? ⟨w.heap.size, 2, none⟩ = some x2 ∧ wx.cell? ⟨w.heap.size, 3, none⟩ = some x3) ∧ Below w.heap.size w wx ∧ w.heap.size + 1 ≤ wx.heap.size := by
 obtain ⟨h1, h2, h3, h4, h5⟩ := boxed hx
 refine ⟨⟨?_, h1, h2, h3⟩, h4, h5⟩
 rw [hx.cell (p := ⟨w.heap.size, 0, none⟩) (Nat.lt_succ_self _), cellT _ rfl]; rfl
set_option maxHeartbeats 1600000 in
set_option maxRecDepth 100000 in
open Classical in
theorem specRight0 (n : Nat) (ih : RightAt n) (nm : ByteArray) (nms : List ByteArray) (ks : List Ty) (an : Option Addr) (ln cn : Nat) (vk : Value) (d : Int) (w : World) (hln : ln = nms.length) (_hnm : nm.size ≤ 1048576) (hrow : RowAt w (TyAt w n) vk ks) (hbk : rowBulk n ks ≤ 1048576) (hd1 : -1 ≤ d) (hd2 : d ≤ 12) :
  Calls Tryz.prog 38 #[.agg #[.int .i64 0, .string nm, .slice an ln cn, vk], .int .i64 d] w fun e w' => e = .returned (.bool (decide (Right (n + 1) (.mk 0 nm nms ks) d))) ∧ Below w.heap.size w w' := by
 obtain ⟨av, capv, rfl, hel⟩ := rowOpen hrow
 have hlen : ks.length ≤ 1048576 := by unfold rowBulk at hbk; omega
 obtain ⟨RR, hRR⟩ : ∃ RR, RR = decide (Right (n + 1) (.mk 0 nm nms ks) d) := ⟨_, rfl⟩
 rw [← hRR]
 have HNO : Hid (¬ Right (n + 1) (.mk 0 nm nms ks) d → RR = false) := fun h => by rw [hRR]; exact decide_eq_false h
 have HYES : Hid (Right (n + 1) (.mk 0 nm nms ks) d → RR = true) := fun h => by rw [hRR]; exact decide_eq_true h
 clear hRR
 have HEL : Hid (type_of% hel) := hel
 have HRK : Hid (0 ≤ d → ∀ k (hk : k < ks.length) (cs : List Value) (wx : World), TyAt wx n cs ks[k] → Calls Tryz.prog 38 #[.agg cs.toArray, .int .i64 (d - 1)] wx fun e w' => e = .returned (.bool (decide (Right n ks[k] (d - 1)))) ∧ Below wx.heap.size wx w') := fun h0 k hk cs wx h => ih cs ks[k] (d - 1) wx h (by have := kid_bulk n ks k hk; unfold rowBulk at hbk; omega) (by omega) (by omega)
 have HBX : Hid (∀ wx : World, Below (w.heap.size + 1) (w.alloc (.cells #[.int .i64 0, .string nm, .slice an ln cn, .slice av ks.length capv] 30)) wx → (wx.cell? ⟨w.heap.size, 0, none⟩ = some (.int .i64 0) ∧ wx.cell? ⟨w.heap.size, 1, none⟩ = some (.string nm) ∧ wx.cell? ⟨w.heap.size, 2, none⟩ = some (.slice an ln cn) ∧ wx.cell? ⟨w.heap.size, 3, none⟩ = some (.slice av ks.length capv)) ∧ Below w.heap.size w wx ∧ w.heap.size + 1 ≤ wx.heap.size) := fun wx hx => boxedR hx
 have HLN : Hid (ln = nms.length) := hln
 clear hrow hel ih hln hbk hd1
 by_cases hneg : d < 0
 ·have HR : Hid (RR = false) := HNO.out fun h => by have := h.1; omega
  clear HNO HYES HEL HRK HBX
  go_enter Tryz.func38, Tryz.ntmps38
  go_wp2_with fail
  go_ret
  exact ⟨by rw [HR.out]; rfl, (Below.refl _ _).alloc (Nat.le_refl _) _⟩
 ·go_enter Tryz.func38, Tryz.ntmps38
  go_wp2_with fail
  go_loopw [5] (fun i wr => ∃ k : Nat, k ≤ ks.length ∧ i = .int .i64 k ∧ (∀ j (hj : j < ks.length), j < k → Right n ks[j] (d - 1)) ∧ Below (w.heap.size + 1) (w.alloc (.cells #[.int .i64 0, .string nm, .slice an ln cn, .slice av ks.length capv] 30)) wr) (fun i _ => ks.length - (intOf i).toNat)
  case atStart => exact ⟨0, Nat.zero_le _, rfl, fun j _ h => absurd h (by omega), Below.refl _ _⟩
  case round =>
   obtain ⟨k, hk, rfl, hall, D⟩ := hrel
   have HALL : Hid (type_of% hall) := hall
   clear hall
   obtain ⟨⟨b0, b1, b2, b3⟩, hbw, hz⟩ := HBX.out wr D
   by_cases hlt : k < ks.length
   ·obtain ⟨b, off, x0, x1, x2, x3, rfl, hba, hta, a0, a1, a2, a3⟩ := HEL.out k hlt
    have A0 := (hbw.cell (p := ⟨b, off + k * 4, none⟩) hba).trans a0
    have A1 := (hbw.cell (p := ⟨b, off + k * 4 + 1, none⟩) hba).trans a1
    have A2 := (hbw.cell (p := ⟨b, off + k * 4 + 2, none⟩) hba).trans a2
    have A3 := (hbw.cell (p := ⟨b, off + k * 4 + 3, none⟩) hba).trans a3
    have HC0 := HRK.out (by omega) k hlt [x0, x1, x2, x3] wr (hta.below hbw)
    by_cases hr : Right n ks[k] (d - 1)
    ·rw [decide_eq_true hr] at HC0
     have HC : Hid (type_of% HC0) := HC0
     have HA2 : Hid (∀ j (hj : j < ks.length), j < k + 1 → Right n ks[j] (d - 1)) := fun j hj hjk => by
      by_cases c : j = k
      ·subst c; exact hr
      ·exact HALL.out j hj (by omega)
     clear a0 a1 a2 a3 HC0 hta HEL HRK HALL hr HNO HYES
     go_wp2_with fail
     refine HC.out.mono ?_
     rintro e w2 ⟨rfl, hb2⟩
     go_wp2_with fail
     go_roundw
     case rel => exact ⟨k + 1, by omega, by go_num, HA2.out, D.trans (hb2.mono hz)⟩
     case measure => simp [intOf]; omega
    ·rw [decide_eq_false hr] at HC0
     have HC : Hid (type_of% HC0) := HC0
     have HR : Hid (RR = false) := HNO.out fun h => hr (h.2.1 _ (List.getElem_mem hlt))
     clear a0 a1 a2 a3 HC0 hta HEL HRK HALL hr HNO HYES
     go_wp2_with fail
     refine HC.out.mono ?_
     rintro e w2 ⟨rfl, hb2⟩
     go_wp2_with fail
     go_ret
     exact ⟨by rw [HR.out]; rfl, hbw.trans (hb2.mono (by omega))⟩
   ·have HKS : Hid (∀ q ∈ ks, Right n q (d - 1)) := fun q hq => by
     obtain ⟨j, hj, rfl⟩ := List.getElem_of_mem hq
     exact HALL.out j hj (by omega)
    clear HALL HRK
    have HP0 := specPlain 0 nm an av ln cn ks.length capv wr
    by_cases hp : nm.size = 0 ∧ ln = 0 ∧ ks.length = 0
    ·have HR : Hid (RR = true) := HYES.out ⟨by omega, HKS.out, .inl ⟨by simp, hp.1, by have := hp.2.1; have := HLN.out; show nms.length = 0; omega, hp.2.2⟩⟩
     have e : (decide (nm.size = 0) && decide (ln = 0) && decide (ks.length = 0)) = true := by simp [hp]
     rw [e] at HP0
     have HP : Hid (type_of% HP0) := HP0
     clear HP0 hp e HNO HYES HEL HKS HLN HBX
     go_wp2_with fail
     refine HP.out.mono ?_
     rintro e w2 ⟨rfl, hb2⟩
     go_wp2_with fail
     go_ret
     exact ⟨by rw [HR.out]; rfl, hbw.trans (hb2.mono (by omega))⟩
    ·have HR : Hid (RR = false) := HNO.out fun h => hp (by
      rcases h.2.2 with ⟨_, q1, q2, q3⟩ | ⟨q, _⟩ | ⟨q, _⟩ | ⟨q, _⟩ | ⟨q, _⟩
      ·exact ⟨q1, by have q2' : nms.length = 0 := q2; have := HLN.out; omega, q3⟩
      all_goals (simp at q))
     have e : (decide (nm.size = 0) && decide (ln = 0) && decide (ks.length = 0)) = false := by
      by_cases c1 : nm.size = 0
      ·by_cases c2 : ln = 0
       ·have c3 : ¬ ks.length = 0 := fun c3 => hp ⟨c1, c2, c3⟩
        simp [c3]
       ·simp [c2]
      ·simp [c1]
     rw [e] at HP0
     have HP : Hid (type_of% HP0) := HP0
     clear HP0 hp e HNO HYES HEL HKS HLN HBX
     go_wp2_with fail
     refine HP.out.mono ?_
     rintro e w2 ⟨rfl, hb2⟩
     go_wp2_with fail
     go_ret
     exact ⟨by rw [HR.out]; rfl, hbw.trans (hb2.mono (by omega))⟩
set_option maxHeartbeats 1600000 in
set_option maxRecDepth 100000 in
open Classical in
theorem specRight1 (n : Nat) (ih : RightAt n) (nm : ByteArray) (nms : List ByteArray) (ks : List Ty) (an : Option Addr) (ln cn : Nat) (vk : Value) (d : Int) (w : World) (hln : ln = nms.length) (_hnm : nm.size ≤ 1048576) (hrow : RowAt w (TyAt w n) vk ks) (hbk : rowBulk n ks ≤ 1048576) (hd1 : -1 ≤ d) (hd2 : d ≤ 12) :
  Calls Tryz.prog 38 #[.agg #[.int .i64 1, .string nm, .slice an ln cn, vk], .int .i64 d] w fun e w' => e = .returned (.bool (decide (Right (n + 1) (.mk 1 nm nms ks) d))) ∧ Below w.heap.size w w' := by
 obtain ⟨av, capv, rfl, hel⟩ := rowOpen hrow
 have hlen : ks.length ≤ 1048576 := by unfold rowBulk at hbk; omega
 obtain ⟨RR, hRR⟩ : ∃ RR, RR = decide (Right (n + 1) (.mk 1 nm nms ks) d) := ⟨_, rfl⟩
 rw [← hRR]
 have HNO : Hid (¬ Right (n + 1) (.mk 1 nm nms ks) d → RR = false) := fun h => by rw [hRR]; exact decide_eq_false h
 have HYES : Hid (Right (n + 1) (.mk 1 nm nms ks) d → RR = true) := fun h => by rw [hRR]; exact decide_eq_true h
 clear hRR
 have HEL : Hid (type_of% hel) := hel
 have HRK : Hid (0 ≤ d → ∀ k (hk : k < ks.length) (cs : List Value) (wx : World), TyAt wx n cs ks[k] → Calls Tryz.prog 38 #[.agg cs.toArray, .int .i64 (d - 1)] wx fun e w' => e = .returned (.bool (decide (Right n ks[k] (d - 1)))) ∧ Below wx.heap.size wx w') := fun h0 k hk cs wx h => ih cs ks[k] (d - 1) wx h (by have := kid_bulk n ks k hk; unfold rowBulk at hbk; omega) (by omega) (by omega)
 have HBX : Hid (∀ wx : World, Below (w.heap.size + 1) (w.alloc (.cells #[.int .i64 1, .string nm, .slice an ln cn, .slice av ks.length capv] 30)) wx → (wx.cell? ⟨w.heap.size, 0, none⟩ = some (.int .i64 1) ∧ wx.cell? ⟨w.heap.size, 1, none⟩ = some (.string nm) ∧ wx.cell? ⟨w.heap.size, 2, none⟩ = some (.slice an ln cn) ∧ wx.cell? ⟨w.heap.size, 3, none⟩ = some (.slice av ks.length capv)) ∧ Below w.heap.size w wx ∧ w.heap.size + 1 ≤ wx.heap.size) := fun wx hx => boxedR hx
 have HLN : Hid (ln = nms.length) := hln
 clear hrow hel ih hln hbk hd1
 by_cases hneg : d < 0
 ·have HR : Hid (RR = false) := HNO.out fun h => by have := h.1; omega
  clear HNO HYES HEL HRK HBX
  go_enter Tryz.func38, Tryz.ntmps38
  go_wp2_with fail
  go_ret
  exact ⟨by rw [HR.out]; rfl, (Below.refl _ _).alloc (Nat.le_refl _) _⟩
 ·go_enter Tryz.func38, Tryz.ntmps38
  go_wp2_with fail
  go_loopw [5] (fun i wr => ∃ k : Nat, k ≤ ks.length ∧ i = .int .i64 k ∧ (∀ j (hj : j < ks.length), j < k → Right n ks[j] (d - 1)) ∧ Below (w.heap.size + 1) (w.alloc (.cells #[.int .i64 1, .string nm, .slice an ln cn, .slice av ks.length capv] 30)) wr) (fun i _ => ks.length - (intOf i).toNat)
  case atStart => exact ⟨0, Nat.zero_le _, rfl, fun j _ h => absurd h (by omega), Below.refl _ _⟩
  case round =>
   obtain ⟨k, hk, rfl, hall, D⟩ := hrel
   have HALL : Hid (type_of% hall) := hall
   clear hall
   obtain ⟨⟨b0, b1, b2, b3⟩, hbw, hz⟩ := HBX.out wr D
   by_cases hlt : k < ks.length
   ·obtain ⟨b, off, x0, x1, x2, x3, rfl, hba, hta, a0, a1, a2, a3⟩ := HEL.out k hlt
    have A0 := (hbw.cell (p := ⟨b, off + k * 4, none⟩) hba).trans a0
    have A1 := (hbw.cell (p := ⟨b, off + k * 4 + 1, none⟩) hba).trans a1
    have A2 := (hbw.cell (p := ⟨b, off + k * 4 + 2, none⟩) hba).trans a2
    have A3 := (hbw.cell (p := ⟨b, off + k * 4 + 3, none⟩) hba).trans a3
    have HC0 := HRK.out (by omega) k hlt [x0, x1, x2, x3] wr (hta.below hbw)
    by_cases hr : Right n ks[k] (d - 1)
    ·rw [decide_eq_true hr] at HC0
     have HC : Hid (type_of% HC0) := HC0
     have HA2 : Hid (∀ j (hj : j < ks.length), j < k + 1 → Right n ks[j] (d - 1)) := fun j hj hjk => by
      by_cases c : j = k
      ·subst c; exact hr
      ·exact HALL.out j hj (by omega)
     clear a0 a1 a2 a3 HC0 hta HEL HRK HALL hr HNO HYES
     go_wp2_with fail
     refine HC.out.mono ?_
     rintro e w2 ⟨rfl, hb2⟩
     go_wp2_with fail
     go_roundw
     case rel => exact ⟨k + 1, by omega, by go_num, HA2.out, D.trans (hb2.mono hz)⟩
     case measure => simp [intOf]; omega
    ·rw [decide_eq_false hr] at HC0
     have HC : Hid (type_of% HC0) := HC0
     have HR : Hid (RR = false) := HNO.out fun h => hr (h.2.1 _ (List.getElem_mem hlt))
     clear a0 a1 a2 a3 HC0 hta HEL HRK HALL hr HNO HYES
     go_wp2_with fail
     refine HC.out.mono ?_
     rintro e w2 ⟨rfl, hb2⟩
     go_wp2_with fail
     go_ret
     exact ⟨by rw [HR.out]; rfl, hbw.trans (hb2.mono (by omega))⟩
   ·have HKS : Hid (∀ q ∈ ks, Right n q (d - 1)) := fun q hq => by
     obtain ⟨j, hj, rfl⟩ := List.getElem_of_mem hq
     exact HALL.out j hj (by omega)
    clear HALL HRK
    have HP0 := specPlain 1 nm an av ln cn ks.length capv wr
    by_cases hp : nm.size = 0 ∧ ln = 0 ∧ ks.length = 0
    ·have HR : Hid (RR = true) := HYES.out ⟨by omega, HKS.out, .inl ⟨by simp, hp.1, by have := hp.2.1; have := HLN.out; show nms.length = 0; omega, hp.2.2⟩⟩
     have e : (decide (nm.size = 0) && decide (ln = 0) && decide (ks.length = 0)) = true := by simp [hp]
     rw [e] at HP0
     have HP : Hid (type_of% HP0) := HP0
     clear HP0 hp e HNO HYES HEL HKS HLN HBX
     go_wp2_with fail
     refine HP.out.mono ?_
     rintro e w2 ⟨rfl, hb2⟩
     go_wp2_with fail
     go_ret
     exact ⟨by rw [HR.out]; rfl, hbw.trans (hb2.mono (by omega))⟩
    ·have HR : Hid (RR = false) := HNO.out fun h => hp (by
      rcases h.2.2 with ⟨_, q1, q2, q3⟩ | ⟨q, _⟩ | ⟨q, _⟩ | ⟨q, _⟩ | ⟨q, _⟩
      ·exact ⟨q1, by have q2' : nms.length = 0 := q2; have := HLN.out; omega, q3⟩
      all_goals (simp at q))
     have e : (decide (nm.size = 0) && decide (ln = 0) && decide (ks.length = 0)) = false := by
      by_cases c1 : nm.size = 0
      ·by_cases c2 : ln = 0
       ·have c3 : ¬ ks.length = 0 := fun c3 => hp ⟨c1, c2, c3⟩
        simp [c3]
       ·simp [c2]
      ·simp [c1]
     rw [e] at HP0
     have HP : Hid (type_of% HP0) := HP0
     clear HP0 hp e HNO HYES HEL HKS HLN HBX
     go_wp2_with fail
     refine HP.out.mono ?_
     rintro e w2 ⟨rfl, hb2⟩
     go_wp2_with fail
     go_ret
     exact ⟨by rw [HR.out]; rfl, hbw.trans (hb2.mono (by omega))⟩
set_option maxHeartbeats 1600000 in
set_option maxRecDepth 100000 in
open Classical in
theorem specRight2 (n : Nat) (ih : RightAt n) (nm : ByteArray) (nms : List ByteArray) (ks : List Ty) (an : Option Addr) (ln cn : Nat) (vk : Value) (d : Int) (w : World) (hln : ln = nms.length) (_hnm : nm.size ≤ 1048576) (hrow : RowAt w (TyAt w n) vk ks) (hbk : rowBulk n ks ≤ 1048576) (hd1 : -1 ≤ d) (hd2 : d ≤ 12) :
  Calls Tryz.prog 38 #[.agg #[.int .i64 2, .string nm, .slice an ln cn, vk], .int .i64 d] w fun e w' => e = .returned (.bool (decide (Right (n + 1) (.mk 2 nm nms ks) d))) ∧ Below w.heap.size w w' := by
 obtain ⟨av, capv, rfl, hel⟩ := rowOpen hrow
 have hlen : ks.length ≤ 1048576 := by unfold rowBulk at hbk; omega
 obtain ⟨RR, hRR⟩ : ∃ RR, RR = decide (Right (n + 1) (.mk 2 nm nms ks) d) := ⟨_, rfl⟩
 rw [← hRR]
 have HNO : Hid (¬ Right (n + 1) (.mk 2 nm nms ks) d → RR = false) := fun h => by rw [hRR]; exact decide_eq_false h
 have HYES : Hid (Right (n + 1) (.mk 2 nm nms ks) d → RR = true) := fun h => by rw [hRR]; exact decide_eq_true h
 clear hRR
 have HEL : Hid (type_of% hel) := hel
 have HRK : Hid (0 ≤ d → ∀ k (hk : k < ks.length) (cs : List Value) (wx : World), TyAt wx n cs ks[k] → Calls Tryz.prog 38 #[.agg cs.toArray, .int .i64 (d - 1)] wx fun e w' => e = .returned (.bool (decide (Right n ks[k] (d - 1)))) ∧ Below wx.heap.size wx w') := fun h0 k hk cs wx h => ih cs ks[k] (d - 1) wx h (by have := kid_bulk n ks k hk; unfold rowBulk at hbk; omega) (by omega) (by omega)
 have HBX : Hid (∀ wx : World, Below (w.heap.size + 1) (w.alloc (.cells #[.int .i64 2, .string nm, .slice an ln cn, .slice av ks.length capv] 30)) wx → (wx.cell? ⟨w.heap.size, 0, none⟩ = some (.int .i64 2) ∧ wx.cell? ⟨w.heap.size, 1, none⟩ = some (.string nm) ∧ wx.cell? ⟨w.heap.size, 2, none⟩ = some (.slice an ln cn) ∧ wx.cell? ⟨w.heap.size, 3, none⟩ = some (.slice av ks.length capv)) ∧ Below w.heap.size w wx ∧ w.heap.size + 1 ≤ wx.heap.size) := fun wx hx => boxedR hx
 have HLN : Hid (ln = nms.length) := hln
 clear hrow hel ih hln hbk hd1
 by_cases hneg : d < 0
 ·have HR : Hid (RR = false) := HNO.out fun h => by have := h.1; omega
  clear HNO HYES HEL HRK HBX
  go_enter Tryz.func38, Tryz.ntmps38
  go_wp2_with fail
  go_ret
  exact ⟨by rw [HR.out]; rfl, (Below.refl _ _).alloc (Nat.le_refl _) _⟩
 ·go_enter Tryz.func38, Tryz.ntmps38
  go_wp2_with fail
  go_loopw [5] (fun i wr => ∃ k : Nat, k ≤ ks.length ∧ i = .int .i64 k ∧ (∀ j (hj : j < ks.length), j < k → Right n ks[j] (d - 1)) ∧ Below (w.heap.size + 1) (w.alloc (.cells #[.int .i64 2, .string nm, .slice an ln cn, .slice av ks.length capv] 30)) wr) (fun i _ => ks.length - (intOf i).toNat)
  case atStart => exact ⟨0, Nat.zero_le _, rfl, fun j _ h => absurd h (by omega), Below.refl _ _⟩
  case round =>
   obtain ⟨k, hk, rfl, hall, D⟩ := hrel
   have HALL : Hid (type_of% hall) := hall
   clear hall
   obtain ⟨⟨b0, b1, b2, b3⟩, hbw, hz⟩ := HBX.out wr D
   by_cases hlt : k < ks.length
   ·obtain ⟨b, off, x0, x1, x2, x3, rfl, hba, hta, a0, a1, a2, a3⟩ := HEL.out k hlt
    have A0 := (hbw.cell (p := ⟨b, off + k * 4, none⟩) hba).trans a0
    have A1 := (hbw.cell (p := ⟨b, off + k * 4 + 1, none⟩) hba).trans a1
    have A2 := (hbw.cell (p := ⟨b, off + k * 4 + 2, none⟩) hba).trans a2
    have A3 := (hbw.cell (p := ⟨b, off + k * 4 + 3, none⟩) hba).trans a3
    have HC0 := HRK.out (by omega) k hlt [x0, x1, x2, x3] wr (hta.below hbw)
    by_cases hr : Right n ks[k] (d - 1)
    ·rw [decide_eq_true hr] at HC0
     have HC : Hid (type_of% HC0) := HC0
     have HA2 : Hid (∀ j (hj : j < ks.length), j < k + 1 → Right n ks[j] (d - 1)) := fun j hj hjk => by
      by_cases c : j = k
      ·subst c; exact hr
      ·exact HALL.out j hj (by omega)
     clear a0 a1 a2 a3 HC0 hta HEL HRK HALL hr HNO HYES
     go_wp2_with fail
     refine HC.out.mono ?_
     rintro e w2 ⟨rfl, hb2⟩
     go_wp2_with fail
     go_roundw
     case rel => exact ⟨k + 1, by omega, by go_num, HA2.out, D.trans (hb2.mono hz)⟩
     case measure => simp [intOf]; omega
    ·rw [decide_eq_false hr] at HC0
     have HC : Hid (type_of% HC0) := HC0
     have HR : Hid (RR = false) := HNO.out fun h => hr (h.2.1 _ (List.getElem_mem hlt))
     clear a0 a1 a2 a3 HC0 hta HEL HRK HALL hr HNO HYES
     go_wp2_with fail
     refine HC.out.mono ?_
     rintro e w2 ⟨rfl, hb2⟩
     go_wp2_with fail
     go_ret
     exact ⟨by rw [HR.out]; rfl, hbw.trans (hb2.mono (by omega))⟩
   ·have HKS : Hid (∀ q ∈ ks, Right n q (d - 1)) := fun q hq => by
     obtain ⟨j, hj, rfl⟩ := List.getElem_of_mem hq
     exact HALL.out j hj (by omega)
    clear HALL HRK
    have HP0 := specPlain 2 nm an av ln cn ks.length capv wr
    by_cases hp : nm.size = 0 ∧ ln = 0 ∧ ks.length = 0
    ·have HR : Hid (RR = true) := HYES.out ⟨by omega, HKS.out, .inl ⟨by simp, hp.1, by have := hp.2.1; have := HLN.out; show nms.length = 0; omega, hp.2.2⟩⟩
     have e : (decide (nm.size = 0) && decide (ln = 0) && decide (ks.length = 0)) = true := by simp [hp]
     rw [e] at HP0
     have HP : Hid (type_of% HP0) := HP0
     clear HP0 hp e HNO HYES HEL HKS HLN HBX
     go_wp2_with fail
     refine HP.out.mono ?_
     rintro e w2 ⟨rfl, hb2⟩
     go_wp2_with fail
     go_ret
     exact ⟨by rw [HR.out]; rfl, hbw.trans (hb2.mono (by omega))⟩
    ·have HR : Hid (RR = false) := HNO.out fun h => hp (by
      rcases h.2.2 with ⟨_, q1, q2, q3⟩ | ⟨q, _⟩ | ⟨q, _⟩ | ⟨q, _⟩ | ⟨q, _⟩
      ·exact ⟨q1, by have q2' : nms.length = 0 := q2; have := HLN.out; omega, q3⟩
      all_goals (simp at q))
     have e : (decide (nm.size = 0) && decide (ln = 0) && decide (ks.length = 0)) = false := by
      by_cases c1 : nm.size = 0
      ·by_cases c2 : ln = 0
       ·have c3 : ¬ ks.length = 0 := fun c3 => hp ⟨c1, c2, c3⟩
        simp [c3]
       ·simp [c2]
      ·simp [c1]
     rw [e] at HP0
     have HP : Hid (type_of% HP0) := HP0
     clear HP0 hp e HNO HYES HEL HKS HLN HBX
     go_wp2_with fail
     refine HP.out.mono ?_
     rintro e w2 ⟨rfl, hb2⟩
     go_wp2_with fail
     go_ret
     exact ⟨by rw [HR.out]; rfl, hbw.trans (hb2.mono (by omega))⟩
set_option maxHeartbeats 1600000 in
set_option maxRecDepth 100000 in
open Classical in
theorem specRight3 (n : Nat) (ih : RightAt n) (nm : ByteArray) (nms : List ByteArray) (ks : List Ty) (an : Option Addr) (ln cn : Nat) (vk : Value) (d : Int) (w : World) (hln : ln = nms.length) (_hnm : nm.size ≤ 1048576) (hrow : RowAt w (TyAt w n) vk ks) (hbk : rowBulk n ks ≤ 1048576) (hd1 : -1 ≤ d) (hd2 : d ≤ 12) :
  Calls Tryz.prog 38 #[.agg #[.int .i64 3, .string nm, .slice an ln cn, vk], .int .i64 d] w fun e w' => e = .returned (.bool (decide (Right (n + 1) (.mk 3 nm nms ks) d))) ∧ Below w.heap.size w w' := by
 obtain ⟨av, capv, rfl, hel⟩ := rowOpen hrow
 have hlen : ks.length ≤ 1048576 := by unfold rowBulk at hbk; omega
 obtain ⟨RR, hRR⟩ : ∃ RR, RR = decide (Right (n + 1) (.mk 3 nm nms ks) d) := ⟨_, rfl⟩
 rw [← hRR]
 have HNO : Hid (¬ Right (n + 1) (.mk 3 nm nms ks) d → RR = false) := fun h => by rw [hRR]; exact decide_eq_false h
 have HYES : Hid (Right (n + 1) (.mk 3 nm nms ks) d → RR = true) := fun h => by rw [hRR]; exact decide_eq_true h
 clear hRR
 have HEL : Hid (type_of% hel) := hel
 have HRK : Hid (0 ≤ d → ∀ k (hk : k < ks.length) (cs : List Value) (wx : World), TyAt wx n cs ks[k] → Calls Tryz.prog 38 #[.agg cs.toArray, .int .i64 (d - 1)] wx fun e w' => e = .returned (.bool (decide (Right n ks[k] (d - 1)))) ∧ Below wx.heap.size wx w') := fun h0 k hk cs wx h => ih cs ks[k] (d - 1) wx h (by have := kid_bulk n ks k hk; unfold rowBulk at hbk; omega) (by omega) (by omega)
 have HBX : Hid (∀ wx : World, Below (w.heap.size + 1) (w.alloc (.cells #[.int .i64 3, .string nm, .slice an ln cn, .slice av ks.length capv] 30)) wx → (wx.cell? ⟨w.heap.size, 0, none⟩ = some (.int .i64 3) ∧ wx.cell? ⟨w.heap.size, 1, none⟩ = some (.string nm) ∧ wx.cell? ⟨w.heap.size, 2, none⟩ = some (.slice an ln cn) ∧ wx.cell? ⟨w.heap.size, 3, none⟩ = some (.slice av ks.length capv)) ∧ Below w.heap.size w wx ∧ w.heap.size + 1 ≤ wx.heap.size) := fun wx hx => boxedR hx
 have HLN : Hid (ln = nms.length) := hln
 clear hrow hel ih hln hbk hd1
 by_cases hneg : d < 0
 ·have HR : Hid (RR = false) := HNO.out fun h => by have := h.1; omega
  clear HNO HYES HEL HRK HBX
  go_enter Tryz.func38, Tryz.ntmps38
  go_wp2_with fail
  go_ret
  exact ⟨by rw [HR.out]; rfl, (Below.refl _ _).alloc (Nat.le_refl _) _⟩
 ·go_enter Tryz.func38, Tryz.ntmps38
  go_wp2_with fail
  go_loopw [5] (fun i wr => ∃ k : Nat, k ≤ ks.length ∧ i = .int .i64 k ∧ (∀ j (hj : j < ks.length), j < k → Right n ks[j] (d - 1)) ∧ Below (w.heap.size + 1) (w.alloc (.cells #[.int .i64 3, .string nm, .slice an ln cn, .slice av ks.length capv] 30)) wr) (fun i _ => ks.length - (intOf i).toNat)
  case atStart => exact ⟨0, Nat.zero_le _, rfl, fun j _ h => absurd h (by omega), Below.refl _ _⟩
  case round =>
   obtain ⟨k, hk, rfl, hall, D⟩ := hrel
   have HALL : Hid (type_of% hall) := hall
   clear hall
   obtain ⟨⟨b0, b1, b2, b3⟩, hbw, hz⟩ := HBX.out wr D
   by_cases hlt : k < ks.length
   ·obtain ⟨b, off, x0, x1, x2, x3, rfl, hba, hta, a0, a1, a2, a3⟩ := HEL.out k hlt
    have A0 := (hbw.cell (p := ⟨b, off + k * 4, none⟩) hba).trans a0
    have A1 := (hbw.cell (p := ⟨b, off + k * 4 + 1, none⟩) hba).trans a1
    have A2 := (hbw.cell (p := ⟨b, off + k * 4 + 2, none⟩) hba).trans a2
    have A3 := (hbw.cell (p := ⟨b, off + k * 4 + 3, none⟩) hba).trans a3
    have HC0 := HRK.out (by omega) k hlt [x0, x1, x2, x3] wr (hta.below hbw)
    by_cases hr : Right n ks[k] (d - 1)
    ·rw [decide_eq_true hr] at HC0
     have HC : Hid (type_of% HC0) := HC0
     have HA2 : Hid (∀ j (hj : j < ks.length), j < k + 1 → Right n ks[j] (d - 1)) := fun j hj hjk => by
      by_cases c : j = k
      ·subst c; exact hr
      ·exact HALL.out j hj (by omega)
     clear a0 a1 a2 a3 HC0 hta HEL HRK HALL hr HNO HYES
     go_wp2_with fail
     refine HC.out.mono ?_
     rintro e w2 ⟨rfl, hb2⟩
     go_wp2_with fail
     go_roundw
     case rel => exact ⟨k + 1, by omega, by go_num, HA2.out, D.trans (hb2.mono hz)⟩
     case measure => simp [intOf]; omega
    ·rw [decide_eq_false hr] at HC0
     have HC : Hid (type_of% HC0) := HC0
     have HR : Hid (RR = false) := HNO.out fun h => hr (h.2.1 _ (List.getElem_mem hlt))
     clear a0 a1 a2 a3 HC0 hta HEL HRK HALL hr HNO HYES
     go_wp2_with fail
     refine HC.out.mono ?_
     rintro e w2 ⟨rfl, hb2⟩
     go_wp2_with fail
     go_ret
     exact ⟨by rw [HR.out]; rfl, hbw.trans (hb2.mono (by omega))⟩
   ·have HKS : Hid (∀ q ∈ ks, Right n q (d - 1)) := fun q hq => by
     obtain ⟨j, hj, rfl⟩ := List.getElem_of_mem hq
     exact HALL.out j hj (by omega)
    clear HALL HRK
    have HP0 := specPlain 3 nm an av ln cn ks.length capv wr
    by_cases hp : nm.size = 0 ∧ ln = 0 ∧ ks.length = 0
    ·have HR : Hid (RR = true) := HYES.out ⟨by omega, HKS.out, .inl ⟨by simp, hp.1, by have := hp.2.1; have := HLN.out; show nms.length = 0; omega, hp.2.2⟩⟩
     have e : (decide (nm.size = 0) && decide (ln = 0) && decide (ks.length = 0)) = true := by simp [hp]
     rw [e] at HP0
     have HP : Hid (type_of% HP0) := HP0
     clear HP0 hp e HNO HYES HEL HKS HLN HBX
     go_wp2_with fail
     refine HP.out.mono ?_
     rintro e w2 ⟨rfl, hb2⟩
     go_wp2_with fail
     go_ret
     exact ⟨by rw [HR.out]; rfl, hbw.trans (hb2.mono (by omega))⟩
    ·have HR : Hid (RR = false) := HNO.out fun h => hp (by
      rcases h.2.2 with ⟨_, q1, q2, q3⟩ | ⟨q, _⟩ | ⟨q, _⟩ | ⟨q, _⟩ | ⟨q, _⟩
      ·exact ⟨q1, by have q2' : nms.length = 0 := q2; have := HLN.out; omega, q3⟩
      all_goals (simp at q))
     have e : (decide (nm.size = 0) && decide (ln = 0) && decide (ks.length = 0)) = false := by
      by_cases c1 : nm.size = 0
      ·by_cases c2 : ln = 0
       ·have c3 : ¬ ks.length = 0 := fun c3 => hp ⟨c1, c2, c3⟩
        simp [c3]
       ·simp [c2]
      ·simp [c1]
     rw [e] at HP0
     have HP : Hid (type_of% HP0) := HP0
     clear HP0 hp e HNO HYES HEL HKS HLN HBX
     go_wp2_with fail
     refine HP.out.mono ?_
     rintro e w2 ⟨rfl, hb2⟩
     go_wp2_with fail
     go_ret
     exact ⟨by rw [HR.out]; rfl, hbw.trans (hb2.mono (by omega))⟩
set_option maxHeartbeats 1600000 in
set_option maxRecDepth 100000 in
open Classical in
theorem specRight4 (n : Nat) (ih : RightAt n) (nm : ByteArray) (nms : List ByteArray) (ks : List Ty) (an : Option Addr) (ln cn : Nat) (vk : Value) (d : Int) (w : World) (hln : ln = nms.length) (hnm : nm.size ≤ 1048576) (hrow : RowAt w (TyAt w n) vk ks) (hbk : rowBulk n ks ≤ 1048576) (hd1 : -1 ≤ d) (hd2 : d ≤ 12) :
  Calls Tryz.prog 38 #[.agg #[.int .i64 4, .string nm, .slice an ln cn, vk], .int .i64 d] w fun e w' => e = .returned (.bool (decide (Right (n + 1) (.mk 4 nm nms ks) d))) ∧ Below w.heap.size w w' := by
 obtain ⟨av, capv, rfl, hel⟩ := rowOpen hrow
 have hlen : ks.length ≤ 1048576 := by unfold rowBulk at hbk; omega
 obtain ⟨RR, hRR⟩ : ∃ RR, RR = decide (Right (n + 1) (.mk 4 nm nms ks) d) := ⟨_, rfl⟩
 rw [← hRR]
 have HNO : Hid (¬ Right (n + 1) (.mk 4 nm nms ks) d → RR = false) := fun h => by rw [hRR]; exact decide_eq_false h
 have HYES : Hid (Right (n + 1) (.mk 4 nm nms ks) d → RR = true) := fun h => by rw [hRR]; exact decide_eq_true h
 clear hRR
 have HEL : Hid (type_of% hel) := hel
 have HRK : Hid (0 ≤ d → ∀ k (hk : k < ks.length) (cs : List Value) (wx : World), TyAt wx n cs ks[k] → Calls Tryz.prog 38 #[.agg cs.toArray, .int .i64 (d - 1)] wx fun e w' => e = .returned (.bool (decide (Right n ks[k] (d - 1)))) ∧ Below wx.heap.size wx w') := fun h0 k hk cs wx h => ih cs ks[k] (d - 1) wx h (by have := kid_bulk n ks k hk; unfold rowBulk at hbk; omega) (by omega) (by omega)
 have HBX : Hid (∀ wx : World, Below (w.heap.size + 1) (w.alloc (.cells #[.int .i64 4, .string nm, .slice an ln cn, .slice av ks.length capv] 30)) wx → (wx.cell? ⟨w.heap.size, 0, none⟩ = some (.int .i64 4) ∧ wx.cell? ⟨w.heap.size, 1, none⟩ = some (.string nm) ∧ wx.cell? ⟨w.heap.size, 2, none⟩ = some (.slice an ln cn) ∧ wx.cell? ⟨w.heap.size, 3, none⟩ = some (.slice av ks.length capv)) ∧ Below w.heap.size w wx ∧ w.heap.size + 1 ≤ wx.heap.size) := fun wx hx => boxedR hx
 have HLN : Hid (ln = nms.length) := hln
 clear hrow hel ih hln hbk hd1
 by_cases hneg : d < 0
 ·have HR : Hid (RR = false) := HNO.out fun h => by have := h.1; omega
  clear HNO HYES HEL HRK HBX
  go_enter Tryz.func38, Tryz.ntmps38
  go_wp2_with fail
  go_ret
  exact ⟨by rw [HR.out]; rfl, (Below.refl _ _).alloc (Nat.le_refl _) _⟩
 ·go_enter Tryz.func38, Tryz.ntmps38
  go_wp2_with fail
  go_loopw [5] (fun i wr => ∃ k : Nat, k ≤ ks.length ∧ i = .int .i64 k ∧ (∀ j (hj : j < ks.length), j < k → Right n ks[j] (d - 1)) ∧ Below (w.heap.size + 1) (w.alloc (.cells #[.int .i64 4, .string nm, .slice an ln cn, .slice av ks.length capv] 30)) wr) (fun i _ => ks.length - (intOf i).toNat)
  case atStart => exact ⟨0, Nat.zero_le _, rfl, fun j _ h => absurd h (by omega), Below.refl _ _⟩
  case round =>
   obtain ⟨k, hk, rfl, hall, D⟩ := hrel
   have HALL : Hid (type_of% hall) := hall
   clear hall
   obtain ⟨⟨b0, b1, b2, b3⟩, hbw, hz⟩ := HBX.out wr D
   by_cases hlt : k < ks.length
   ·obtain ⟨b, off, x0, x1, x2, x3, rfl, hba, hta, a0, a1, a2, a3⟩ := HEL.out k hlt
    have A0 := (hbw.cell (p := ⟨b, off + k * 4, none⟩) hba).trans a0
    have A1 := (hbw.cell (p := ⟨b, off + k * 4 + 1, none⟩) hba).trans a1
    have A2 := (hbw.cell (p := ⟨b, off + k * 4 + 2, none⟩) hba).trans a2
    have A3 := (hbw.cell (p := ⟨b, off + k * 4 + 3, none⟩) hba).trans a3
    have HC0 := HRK.out (by omega) k hlt [x0, x1, x2, x3] wr (hta.below hbw)
    by_cases hr : Right n ks[k] (d - 1)
    ·rw [decide_eq_true hr] at HC0
     have HC : Hid (type_of% HC0) := HC0
     have HA2 : Hid (∀ j (hj : j < ks.length), j < k + 1 → Right n ks[j] (d - 1)) := fun j hj hjk => by
      by_cases c : j = k
      ·subst c; exact hr
      ·exact HALL.out j hj (by omega)
     clear a0 a1 a2 a3 HC0 hta HEL HRK HALL hr HNO HYES
     go_wp2_with fail
     refine HC.out.mono ?_
     rintro e w2 ⟨rfl, hb2⟩
     go_wp2_with fail
     go_roundw
     case rel => exact ⟨k + 1, by omega, by go_num, HA2.out, D.trans (hb2.mono hz)⟩
     case measure => simp [intOf]; omega
    ·rw [decide_eq_false hr] at HC0
     have HC : Hid (type_of% HC0) := HC0
     have HR : Hid (RR = false) := HNO.out fun h => hr (h.2.1 _ (List.getElem_mem hlt))
     clear a0 a1 a2 a3 HC0 hta HEL HRK HALL hr HNO HYES
     go_wp2_with fail
     refine HC.out.mono ?_
     rintro e w2 ⟨rfl, hb2⟩
     go_wp2_with fail
     go_ret
     exact ⟨by rw [HR.out]; rfl, hbw.trans (hb2.mono (by omega))⟩
   ·have HKS : Hid (∀ q ∈ ks, Right n q (d - 1)) := fun q hq => by
     obtain ⟨j, hj, rfl⟩ := List.getElem_of_mem hq
     exact HALL.out j hj (by omega)
    clear HALL HRK
    have HP0 := specDotted nm wr (by omega)
    by_cases hp : dottedP nm = true
    ·rw [hp] at HP0
     have HP : Hid (type_of% HP0) := HP0
     clear HP0
     by_cases h2 : ln = 0
     ·by_cases h3 : ks.length = 0
      ·have HR : Hid (RR = true) := HYES.out ⟨by omega, HKS.out, .inr (.inl ⟨rfl, hp, by have := HLN.out; show nms.length = 0; omega, h3⟩)⟩
       have h2i : ((ln : Int) == 0) = true := by rw [beq_iff_eq]; omega
       have h3i : ((ks.length : Int) == 0) = true := by rw [beq_iff_eq]; omega
       clear hp h2 h3 HNO HYES HEL HKS HLN
       go_wp2_with fail
       refine HP.out.mono ?_
       rintro e w2 ⟨rfl, hb2⟩
       obtain ⟨⟨c0, c1, c2, c3⟩, hbw2, _⟩ := HBX.out w2 (D.trans (hb2.mono hz))
       go_wp2_with fail
       go_ret
       exact ⟨by rw [HR.out]; rfl, hbw2⟩
      ·have HR : Hid (RR = false) := HNO.out fun h => h3 (by
        rcases h.2.2 with ⟨q, _⟩ | ⟨_, _, _, q3⟩ | ⟨q, _⟩ | ⟨q, _⟩ | ⟨q, _⟩
        ·simp at q
        ·exact q3
        all_goals (simp at q))
       have h2i : ((ln : Int) == 0) = true := by rw [beq_iff_eq]; omega
       have h3i : ((ks.length : Int) == 0) = false := by rw [beq_eq_false_iff_ne]; omega
       clear hp h2 h3 HNO HYES HEL HKS HLN
       go_wp2_with fail
       refine HP.out.mono ?_
       rintro e w2 ⟨rfl, hb2⟩
       obtain ⟨⟨c0, c1, c2, c3⟩, hbw2, _⟩ := HBX.out w2 (D.trans (hb2.mono hz))
       go_wp2_with fail
       go_ret
       exact ⟨by rw [HR.out]; rfl, hbw2⟩
     ·have HR : Hid (RR = false) := HNO.out fun h => h2 (by
       rcases h.2.2 with ⟨q, _⟩ | ⟨_, _, q2, _⟩ | ⟨q, _⟩ | ⟨q, _⟩ | ⟨q, _⟩
       ·simp at q
       ·have q2' : nms.length = 0 := q2
        have := HLN.out
        omega
       all_goals (simp at q))
      have h2i : ((ln : Int) == 0) = false := by rw [beq_eq_false_iff_ne]; omega
      clear hp h2 HNO HYES HEL HKS HLN
      go_wp2_with fail
      refine HP.out.mono ?_
      rintro e w2 ⟨rfl, hb2⟩
      obtain ⟨⟨c0, c1, c2, c3⟩, hbw2, _⟩ := HBX.out w2 (D.trans (hb2.mono hz))
      go_wp2_with fail
      go_ret
      exact ⟨by rw [HR.out]; rfl, hbw2⟩
    ·have hp' : dottedP nm = false := by simpa using hp
     rw [hp'] at HP0
     have HP : Hid (type_of% HP0) := HP0
     have HR : Hid (RR = false) := HNO.out fun h => hp (by
      rcases h.2.2 with ⟨q, _⟩ | ⟨_, q1, _⟩ | ⟨q, _⟩ | ⟨q, _⟩ | ⟨q, _⟩
      ·simp at q
      ·exact q1
      all_goals (simp at q))
     clear HP0 hp hp' HNO HYES HEL HKS HLN
     go_wp2_with fail
     refine HP.out.mono ?_
     rintro e w2 ⟨rfl, hb2⟩
     obtain ⟨⟨c0, c1, c2, c3⟩, hbw2, _⟩ := HBX.out w2 (D.trans (hb2.mono hz))
     go_wp2_with fail
     go_ret
     exact ⟨by rw [HR.out]; rfl, hbw2⟩
set_option maxHeartbeats 1600000 in
set_option maxRecDepth 100000 in
open Classical in
theorem specRight6 (n : Nat) (ih : RightAt n) (nm : ByteArray) (nms : List ByteArray) (ks : List Ty) (an : Option Addr) (ln cn : Nat) (vk : Value) (d : Int) (w : World) (hln : ln = nms.length) (_hnm : nm.size ≤ 1048576) (hrow : RowAt w (TyAt w n) vk ks) (hbk : rowBulk n ks ≤ 1048576) (hd1 : -1 ≤ d) (hd2 : d ≤ 12) :
  Calls Tryz.prog 38 #[.agg #[.int .i64 6, .string nm, .slice an ln cn, vk], .int .i64 d] w fun e w' => e = .returned (.bool (decide (Right (n + 1) (.mk 6 nm nms ks) d))) ∧ Below w.heap.size w w' := by
 obtain ⟨av, capv, rfl, hel⟩ := rowOpen hrow
 have hlen : ks.length ≤ 1048576 := by unfold rowBulk at hbk; omega
 obtain ⟨RR, hRR⟩ : ∃ RR, RR = decide (Right (n + 1) (.mk 6 nm nms ks) d) := ⟨_, rfl⟩
 rw [← hRR]
 have HNO : Hid (¬ Right (n + 1) (.mk 6 nm nms ks) d → RR = false) := fun h => by rw [hRR]; exact decide_eq_false h
 have HYES : Hid (Right (n + 1) (.mk 6 nm nms ks) d → RR = true) := fun h => by rw [hRR]; exact decide_eq_true h
 clear hRR
 have HEL : Hid (type_of% hel) := hel
 have HRK : Hid (0 ≤ d → ∀ k (hk : k < ks.length) (cs : List Value) (wx : World), TyAt wx n cs ks[k] → Calls Tryz.prog 38 #[.agg cs.toArray, .int .i64 (d - 1)] wx fun e w' => e = .returned (.bool (decide (Right n ks[k] (d - 1)))) ∧ Below wx.heap.size wx w') := fun h0 k hk cs wx h => ih cs ks[k] (d - 1) wx h (by have := kid_bulk n ks k hk; unfold rowBulk at hbk; omega) (by omega) (by omega)
 have HBX : Hid (∀ wx : World, Below (w.heap.size + 1) (w.alloc (.cells #[.int .i64 6, .string nm, .slice an ln cn, .slice av ks.length capv] 30)) wx → (wx.cell? ⟨w.heap.size, 0, none⟩ = some (.int .i64 6) ∧ wx.cell? ⟨w.heap.size, 1, none⟩ = some (.string nm) ∧ wx.cell? ⟨w.heap.size, 2, none⟩ = some (.slice an ln cn) ∧ wx.cell? ⟨w.heap.size, 3, none⟩ = some (.slice av ks.length capv)) ∧ Below w.heap.size w wx ∧ w.heap.size + 1 ≤ wx.heap.size) := fun wx hx => boxedR hx
 have HLN : Hid (ln = nms.length) := hln
 clear hrow hel ih hln hbk hd1
 by_cases hneg : d < 0
 ·have HR : Hid (RR = false) := HNO.out fun h => by have := h.1; omega
  clear HNO HYES HEL HRK HBX
  go_enter Tryz.func38, Tryz.ntmps38
  go_wp2_with fail
  go_ret
  exact ⟨by rw [HR.out]; rfl, (Below.refl _ _).alloc (Nat.le_refl _) _⟩
 ·go_enter Tryz.func38, Tryz.ntmps38
  go_wp2_with fail
  go_loopw [5] (fun i wr => ∃ k : Nat, k ≤ ks.length ∧ i = .int .i64 k ∧ (∀ j (hj : j < ks.length), j < k → Right n ks[j] (d - 1)) ∧ Below (w.heap.size + 1) (w.alloc (.cells #[.int .i64 6, .string nm, .slice an ln cn, .slice av ks.length capv] 30)) wr) (fun i _ => ks.length - (intOf i).toNat)
  case atStart => exact ⟨0, Nat.zero_le _, rfl, fun j _ h => absurd h (by omega), Below.refl _ _⟩
  case round =>
   obtain ⟨k, hk, rfl, hall, D⟩ := hrel
   have HALL : Hid (type_of% hall) := hall
   clear hall
   obtain ⟨⟨b0, b1, b2, b3⟩, hbw, hz⟩ := HBX.out wr D
   by_cases hlt : k < ks.length
   ·obtain ⟨b, off, x0, x1, x2, x3, rfl, hba, hta, a0, a1, a2, a3⟩ := HEL.out k hlt
    have A0 := (hbw.cell (p := ⟨b, off + k * 4, none⟩) hba).trans a0
    have A1 := (hbw.cell (p := ⟨b, off + k * 4 + 1, none⟩) hba).trans a1
    have A2 := (hbw.cell (p := ⟨b, off + k * 4 + 2, none⟩) hba).trans a2
    have A3 := (hbw.cell (p := ⟨b, off + k * 4 + 3, none⟩) hba).trans a3
    have HC0 := HRK.out (by omega) k hlt [x0, x1, x2, x3] wr (hta.below hbw)
    by_cases hr : Right n ks[k] (d - 1)
    ·rw [decide_eq_true hr] at HC0
     have HC : Hid (type_of% HC0) := HC0
     have HA2 : Hid (∀ j (hj : j < ks.length), j < k + 1 → Right n ks[j] (d - 1)) := fun j hj hjk => by
      by_cases c : j = k
      ·subst c; exact hr
      ·exact HALL.out j hj (by omega)
     clear a0 a1 a2 a3 HC0 hta HEL HRK HALL hr HNO HYES
     go_wp2_with fail
     refine HC.out.mono ?_
     rintro e w2 ⟨rfl, hb2⟩
     go_wp2_with fail
     go_roundw
     case rel => exact ⟨k + 1, by omega, by go_num, HA2.out, D.trans (hb2.mono hz)⟩
     case measure => simp [intOf]; omega
    ·rw [decide_eq_false hr] at HC0
     have HC : Hid (type_of% HC0) := HC0
     have HR : Hid (RR = false) := HNO.out fun h => hr (h.2.1 _ (List.getElem_mem hlt))
     clear a0 a1 a2 a3 HC0 hta HEL HRK HALL hr HNO HYES
     go_wp2_with fail
     refine HC.out.mono ?_
     rintro e w2 ⟨rfl, hb2⟩
     go_wp2_with fail
     go_ret
     exact ⟨by rw [HR.out]; rfl, hbw.trans (hb2.mono (by omega))⟩
   ·have HKS : Hid (∀ q ∈ ks, Right n q (d - 1)) := fun q hq => by
     obtain ⟨j, hj, rfl⟩ := List.getElem_of_mem hq
     exact HALL.out j hj (by omega)
    clear HALL HRK
    have HOW : Hid (Right (n + 1) (.mk 6 nm nms ks) d → nm.size = 0 ∧ nms.length = 0 ∧ 0 < ks.length) := fun h => by
     rcases h.2.2 with ⟨q, _⟩ | ⟨q, _⟩ | ⟨q, _⟩ | ⟨_, q1, q2, q3⟩ | ⟨q, _⟩
     ·simp at q
     ·simp at q
     ·simp at q
     ·exact ⟨q1, q2, q3⟩
     ·simp at q
    by_cases h1 : nm.size = 0
    ·have e1 := isEmpty_of h1
     by_cases h2 : ln = 0
     ·by_cases h3 : 0 < ks.length
      ·have HR : Hid (RR = true) := HYES.out ⟨by omega, HKS.out, .inr (.inr (.inr (.inl ⟨rfl, h1, by have := HLN.out; show nms.length = 0; omega, h3⟩)))⟩
       have h2i : ((ln : Int) == 0) = true := by rw [beq_iff_eq]; omega
       clear h1 h2 HNO HYES HEL HKS HLN HBX HOW
       go_wp2_with fail
       go_ret
       exact ⟨by rw [HR.out]; rfl, hbw⟩
      ·have HR : Hid (RR = false) := HNO.out fun h => h3 (HOW.out h).2.2
       have h2i : ((ln : Int) == 0) = true := by rw [beq_iff_eq]; omega
       clear h1 h2 HNO HYES HEL HKS HLN HBX HOW
       go_wp2_with fail
       go_ret
       exact ⟨by rw [HR.out]; rfl, hbw⟩
     ·have HR : Hid (RR = false) := HNO.out fun h => h2 (by have := (HOW.out h).2.1; have := HLN.out; omega)
      have h2i : ((ln : Int) == 0) = false := by rw [beq_eq_false_iff_ne]; omega
      clear h1 h2 HNO HYES HEL HKS HLN HBX HOW
      go_wp2_with fail
      go_ret
      exact ⟨by rw [HR.out]; rfl, hbw⟩
    ·have e1 := isEmpty_no (s := nm) (by omega)
     have HR : Hid (RR = false) := HNO.out fun h => h1 (HOW.out h).1
     clear h1 HNO HYES HEL HKS HLN HBX HOW
     go_wp2_with fail
     go_ret
     exact ⟨by rw [HR.out]; rfl, hbw⟩
set_option maxHeartbeats 1600000 in
set_option maxRecDepth 100000 in
open Classical in
theorem specRightE (n : Nat) (ih : RightAt n) (kd : Int) (nm : ByteArray) (nms : List ByteArray) (ks : List Ty) (an : Option Addr) (ln cn : Nat) (vk : Value) (d : Int) (w : World) (hln : ln = nms.length) (_hnm : nm.size ≤ 1048576) (hrow : RowAt w (TyAt w n) vk ks) (hbk : rowBulk n ks ≤ 1048576) (hd1 : -1 ≤ d) (hd2 : d ≤ 12) (hkd : kd < 0 ∨ 7 < kd) :
  Calls Tryz.prog 38 #[.agg #[.int .i64 kd, .string nm, .slice an ln cn, vk], .int .i64 d] w fun e w' => e = .returned (.bool (decide (Right (n + 1) (.mk kd nm nms ks) d))) ∧ Below w.heap.size w w' := by
 obtain ⟨av, capv, rfl, hel⟩ := rowOpen hrow
 have hlen : ks.length ≤ 1048576 := by unfold rowBulk at hbk; omega
 obtain ⟨RR, hRR⟩ : ∃ RR, RR = decide (Right (n + 1) (.mk kd nm nms ks) d) := ⟨_, rfl⟩
 rw [← hRR]
 have HNO : Hid (¬ Right (n + 1) (.mk kd nm nms ks) d → RR = false) := fun h => by rw [hRR]; exact decide_eq_false h
 have HYES : Hid (Right (n + 1) (.mk kd nm nms ks) d → RR = true) := fun h => by rw [hRR]; exact decide_eq_true h
 clear hRR
 have HEL : Hid (type_of% hel) := hel
 have HRK : Hid (0 ≤ d → ∀ k (hk : k < ks.length) (cs : List Value) (wx : World), TyAt wx n cs ks[k] → Calls Tryz.prog 38 #[.agg cs.toArray, .int .i64 (d - 1)] wx fun e w' => e = .returned (.bool (decide (Right n ks[k] (d - 1)))) ∧ Below wx.heap.size wx w') := fun h0 k hk cs wx h => ih cs ks[k] (d - 1) wx h (by have := kid_bulk n ks k hk; unfold rowBulk at hbk; omega) (by omega) (by omega)
 have HBX : Hid (∀ wx : World, Below (w.heap.size + 1) (w.alloc (.cells #[.int .i64 kd, .string nm, .slice an ln cn, .slice av ks.length capv] 30)) wx → (wx.cell? ⟨w.heap.size, 0, none⟩ = some (.int .i64 kd) ∧ wx.cell? ⟨w.heap.size, 1, none⟩ = some (.string nm) ∧ wx.cell? ⟨w.heap.size, 2, none⟩ = some (.slice an ln cn) ∧ wx.cell? ⟨w.heap.size, 3, none⟩ = some (.slice av ks.length capv)) ∧ Below w.heap.size w wx ∧ w.heap.size + 1 ≤ wx.heap.size) := fun wx hx => boxedR hx
 have HLN : Hid (ln = nms.length) := hln
 clear hrow hel ih hln hbk hd1
 by_cases hneg : d < 0
 ·have HR : Hid (RR = false) := HNO.out fun h => by have := h.1; omega
  clear HNO HYES HEL HRK HBX
  go_enter Tryz.func38, Tryz.ntmps38
  go_wp2_with fail
  go_ret
  exact ⟨by rw [HR.out]; rfl, (Below.refl _ _).alloc (Nat.le_refl _) _⟩
 ·go_enter Tryz.func38, Tryz.ntmps38
  go_wp2_with fail
  go_loopw [5] (fun i wr => ∃ k : Nat, k ≤ ks.length ∧ i = .int .i64 k ∧ (∀ j (hj : j < ks.length), j < k → Right n ks[j] (d - 1)) ∧ Below (w.heap.size + 1) (w.alloc (.cells #[.int .i64 kd, .string nm, .slice an ln cn, .slice av ks.length capv] 30)) wr) (fun i _ => ks.length - (intOf i).toNat)
  case atStart => exact ⟨0, Nat.zero_le _, rfl, fun j _ h => absurd h (by omega), Below.refl _ _⟩
  case round =>
   obtain ⟨k, hk, rfl, hall, D⟩ := hrel
   have HALL : Hid (type_of% hall) := hall
   clear hall
   obtain ⟨⟨b0, b1, b2, b3⟩, hbw, hz⟩ := HBX.out wr D
   by_cases hlt : k < ks.length
   ·obtain ⟨b, off, x0, x1, x2, x3, rfl, hba, hta, a0, a1, a2, a3⟩ := HEL.out k hlt
    have A0 := (hbw.cell (p := ⟨b, off + k * 4, none⟩) hba).trans a0
    have A1 := (hbw.cell (p := ⟨b, off + k * 4 + 1, none⟩) hba).trans a1
    have A2 := (hbw.cell (p := ⟨b, off + k * 4 + 2, none⟩) hba).trans a2
    have A3 := (hbw.cell (p := ⟨b, off + k * 4 + 3, none⟩) hba).trans a3
    have HC0 := HRK.out (by omega) k hlt [x0, x1, x2, x3] wr (hta.below hbw)
    by_cases hr : Right n ks[k] (d - 1)
    ·rw [decide_eq_true hr] at HC0
     have HC : Hid (type_of% HC0) := HC0
     have HA2 : Hid (∀ j (hj : j < ks.length), j < k + 1 → Right n ks[j] (d - 1)) := fun j hj hjk => by
      by_cases c : j = k
      ·subst c; exact hr
      ·exact HALL.out j hj (by omega)
     clear a0 a1 a2 a3 HC0 hta HEL HRK HALL hr HNO HYES
     go_wp2_with fail
     refine HC.out.mono ?_
     rintro e w2 ⟨rfl, hb2⟩
     go_wp2_with fail
     go_roundw
     case rel => exact ⟨k + 1, by omega, by go_num, HA2.out, D.trans (hb2.mono hz)⟩
     case measure => simp [intOf]; omega
    ·rw [decide_eq_false hr] at HC0
     have HC : Hid (type_of% HC0) := HC0
     have HR : Hid (RR = false) := HNO.out fun h => hr (h.2.1 _ (List.getElem_mem hlt))
     clear a0 a1 a2 a3 HC0 hta HEL HRK HALL hr HNO HYES
     go_wp2_with fail
     refine HC.out.mono ?_
     rintro e w2 ⟨rfl, hb2⟩
     go_wp2_with fail
     go_ret
     exact ⟨by rw [HR.out]; rfl, hbw.trans (hb2.mono (by omega))⟩
   ·have HKS : Hid (∀ q ∈ ks, Right n q (d - 1)) := fun q hq => by
     obtain ⟨j, hj, rfl⟩ := List.getElem_of_mem hq
     exact HALL.out j hj (by omega)
    clear HALL HRK
    have HR : Hid (RR = false) := HNO.out fun h => by
     rcases h.2.2 with ⟨q, _⟩ | ⟨q, _⟩ | ⟨q, _⟩ | ⟨q, _⟩ | ⟨q, _⟩
     all_goals (simp only at q; omega)
    have g0 : (kd == 0) = false := beq_eq_false_iff_ne.2 (by omega)
    have g1 : (kd == 1) = false := beq_eq_false_iff_ne.2 (by omega)
    have g2 : (kd == 2) = false := beq_eq_false_iff_ne.2 (by omega)
    have g3 : (kd == 3) = false := beq_eq_false_iff_ne.2 (by omega)
    have g4 : (kd == 4) = false := beq_eq_false_iff_ne.2 (by omega)
    have g5 : (kd == 5) = false := beq_eq_false_iff_ne.2 (by omega)
    have g6 : (kd == 6) = false := beq_eq_false_iff_ne.2 (by omega)
    have g7 : (kd == 7) = false := beq_eq_false_iff_ne.2 (by omega)
    clear hkd HNO HYES HEL HKS HLN HBX
    go_wp2_with fail
    go_ret
    exact ⟨by rw [HR.out]; rfl, hbw⟩
end Go.Proofs.YtbojmbeopnlmiaaGreatDoor

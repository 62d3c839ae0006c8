/-
 The walk of spec.SummaryOk.
-/
import Derived.Test.YtbojmbeopnlmiaaGreatDoorSuM
namespace Go.Proofs.YtbojmbeopnlmiaaGreatDoor
open Go.RowKit
open Go.Sort (grow)
theorem dot_nameS {s : ByteArray} (h : dottedP s = true) : Lx.nameOkP s = true ↔ ∀ j, j < s.size → Lx.byt s j ≠ 46 := by
 constructor
 ·intro hn j hj e
  have := (name_bytes hn).2.2 j hj
  rw [e] at this
  exact absurd this (by decide)
 ·intro hno
  unfold dottedP at h
  cases hd : dotP s (s.size + 1) 0 with
  | none => rw [hd] at h; exact h
  | some i =>
   obtain ⟨_, h1, h2⟩ := dotP_some hd
   exact absurd h2 (hno i h1)
theorem dot_inS {s : ByteArray} (h : dottedP s = true) : dotIn s = !Lx.nameOkP s := by
 unfold dotIn
 have hge := Lib.indexByte_ge s.data.toList 46
 by_cases c : Lib.indexByte s.data.toList 46 = -1
 ·have hd := dot_none c (s.size + 1) 0
  unfold dottedP at h
  rw [hd] at h
  rw [show Lx.nameOkP s = true from h, decide_eq_false (by omega)]
  rfl
 ·obtain ⟨o, ho⟩ : ∃ o : Nat, Lib.indexByte s.data.toList 46 = o := ⟨(Lib.indexByte s.data.toList 46).toNat, by omega⟩
  obtain ⟨h1, h2⟩ := dot_some ho
  obtain ⟨_, q1, q2⟩ := dotP_some (h2 0 (s.size + 1) (Nat.zero_le _) (by omega))
  have hn : Lx.nameOkP s = false := by
   cases hh : Lx.nameOkP s with
   | false => rfl
   | true => exact absurd q2 ((dot_nameS h).1 hh o q1)
  rw [hn, decide_eq_true (by omega)]
  rfl
def SumAsk (n : Nat) (nm : ByteArray) (bad : Bool) (ts xs : List (ByteArray × Ty)) : Prop :=
 Lx.nameOkP nm = true ∧ EnvRight n ts ∧ EnvRight n xs ∧ (bad = true → ts.length + xs.length = 0) ∧ (∀ j (h : j < ts.length), Lx.nameOkP ts[j].1 = false) ∧ (∀ j (h : j < xs.length), Lx.nameOkP xs[j].1 = true) ∧ ReachedAll n ts xs
theorem any_dots {n : Nat} {ts : List (ByteArray × Ty)} (h : EnvRight n ts) (b : Bool) : (ts.any fun x => dotIn x.1 == b) = false ↔ ∀ j (h : j < ts.length), Lx.nameOkP ts[j].1 = b := by
 rw [List.any_eq_false]
 constructor
 ·intro k j hj
  have h1 := k ts[j] (List.getElem_mem hj)
  rw [dot_inS (h.1 j hj).1] at h1
  cases hb : Lx.nameOkP ts[j].1 <;> rw [hb] at h1 <;> cases b <;> simp at h1 ⊢
 ·intro k x hx
  obtain ⟨j, hj, rfl⟩ := List.getElem_of_mem hx
  rw [dot_inS (h.1 j hj).1, k j hj]
  cases b <;> simp
open Classical in
theorem sum_ask {n : Nat} {nm : ByteArray} {bad : Bool} {ts xs : List (ByteArray × Ty)} : sumRight n nm bad ts xs = true ↔ SumAsk n nm bad ts xs := by
 have e1 : (xs.any fun x => dotIn x.1) = (xs.any fun x => dotIn x.1 == true) := by congr 1; funext x; cases dotIn x.1 <;> rfl
 have e2 : (ts.any fun x => !dotIn x.1) = (ts.any fun x => dotIn x.1 == false) := by congr 1; funext x; cases dotIn x.1 <;> rfl
 unfold sumRight SumAsk
 cases bad with
 | false =>
  simp only [Bool.false_eq_true, if_false, Bool.and_eq_true, decide_eq_true_eq, Bool.not_eq_true', e1, e2]
  constructor
  ·rintro ⟨h0, (⟨⟨⟨⟨h1, h2⟩, h3⟩, h4⟩, h5⟩)⟩
   exact ⟨h0, h1, h2, fun h => h.elim, (any_dots h1 false).1 h4, (any_dots h2 true).1 h3, h5⟩
  ·rintro ⟨h0, h1, h2, _, h4, h3, h5⟩
   exact ⟨h0, ⟨⟨⟨⟨h1, h2⟩, (any_dots h2 true).2 h3⟩, (any_dots h1 false).2 h4⟩, h5⟩⟩
 | true =>
  simp only [if_true, Bool.and_eq_true, decide_eq_true_eq]
  constructor
  ·rintro ⟨h0, h1⟩
   obtain rfl : ts = [] := List.length_eq_zero_iff.1 (by omega)
   obtain rfl : xs = [] := List.length_eq_zero_iff.1 (by omega)
   have hE : EnvRight n [] := ⟨fun j h => absurd h (by simp), by simp⟩
   refine ⟨h0, hE, hE, fun _ => h1, fun j h => absurd h (by simp), fun j h => absurd h (by simp), List.Pairwise.nil, fun x => ?_⟩
   rw [reach_fnOf (fun e he => by simp at he)]
   simp
  ·rintro ⟨h0, _, _, h1, _⟩
   exact ⟨h0, h1 trivial⟩
open Go.Sort (grow)
set_option maxHeartbeats 3200000 in
set_option maxRecDepth 100000 in
open Classical in
theorem specSummaryOk (n : Nat) (nm : ByteArray) (bad : Bool) (vT vX : Value) (ts xs : List (ByteArray × Ty)) (w : World) (hT : EnvAt w n vT ts) (hX : EnvAt w n vX xs) (hns : nm.size ≤ 1048576) (hbk : envBulk n ts + envBulk n xs ≤ 1048576) :
  Calls Tryz.prog 30 #[.agg #[.string nm, .bool bad, vT, vX]] w fun e w' => e = .returned (.bool (sumRight n nm bad ts xs)) ∧ Below w.heap.size w w' := by
 have hendT := hT.ends
 have hendX := hX.ends
 have hlT : ts.length ≤ 1048576 := by have : ts.length ≤ envBulk n ts := by { unfold envBulk; omega }; omega
 have hlX : xs.length ≤ 1048576 := by have : xs.length ≤ envBulk n xs := by { unfold envBulk; omega }; omega
 have hbT := envBulk_ends hendT
 have hbX := envBulk_ends hendX
 have hnT : ∀ j (h : j < ts.length), ts[j].1.size ≤ 1048576 := fun j h => by have := env_bulk n ts j h; omega
 have hnX : ∀ j (h : j < xs.length), xs[j].1.size ≤ 1048576 := fun j h => by have := env_bulk n xs j h; omega
 obtain ⟨aT, cT, rfl, helT⟩ := envOpen hT
 obtain ⟨aX, cX, rfl, helX⟩ := envOpen hX
 have hB1 : Below w.heap.size w (w.alloc (.cells #[.string nm, .bool bad, .slice aT ts.length cT, .slice aX xs.length cX] 41)) := (Below.refl _ _).alloc (Nat.le_refl _) _
 have HNM : Hid (∀ (s : ByteArray) (wx : World), s.size ≤ 1048576 → Calls Tryz.prog 48 #[.string s] wx fun e w' => e = .returned (.bool (Lx.nameOkP s)) ∧ Below wx.heap.size wx w') := fun s wx hs => specNameOk s wx (by omega)
 have HET : Hid (∀ wx : World, Below w.heap.size w wx → Calls Tryz.prog 49 #[.slice aT ts.length cT] wx fun e w' => e = .returned (.bool (decide (EnvRight n ts))) ∧ Below wx.heap.size wx w') := fun wx hx => specEnvOk n _ ts wx (hT.below hx) (by omega)
 have HEX : Hid (∀ wx : World, Below w.heap.size w wx → Calls Tryz.prog 49 #[.slice aX xs.length cX] wx fun e w' => e = .returned (.bool (decide (EnvRight n xs))) ∧ Below wx.heap.size wx w') := fun wx hx => specEnvOk n _ xs wx (hX.below hx) (by omega)
 have HRA : Hid (∀ wx : World, Below w.heap.size w wx → Calls Tryz.prog 50 #[.slice aT ts.length cT, .slice aX xs.length cX] wx fun e w' => ∃ g cap r, e = .returned (.slice (some ⟨g, 0, none⟩) r.length cap) ∧ (∀ j (hj : j < r.length), w'.cell? ⟨g, j, none⟩ = some (.string r[j])) ∧ r.length ≤ 1048577 ∧ (ts.map (·.1) = r ↔ ReachedAll n ts xs) ∧ Below wx.heap.size wx w') := fun wx hx => (specReachAll n _ _ ts xs wx (hT.below hx).deeper (hX.below hx).deeper (by omega)).mono fun e w' ⟨g, cap, r, he, hh, hrl, hin, hb'⟩ => ⟨g, cap, r, he, held_cells hh, hrl, ⟨fun h => ⟨by rw [h]; exact hh.asc, fun x => by rw [h, hin, reach_fnOf hendX]⟩, fun h => Asc.unique h.1 hh.asc fun x => by rw [h.2, hin, reach_fnOf hendX]⟩, hb'⟩
 have HBX : Hid (∀ wx : World, Below (w.heap.size + 1) (w.alloc (.cells #[.string nm, .bool bad, .slice aT ts.length cT, .slice aX xs.length cX] 41)) wx → wx.cell? ⟨w.heap.size, 0, none⟩ = some (.string nm) ∧ wx.cell? ⟨w.heap.size, 1, none⟩ = some (.bool bad) ∧ wx.cell? ⟨w.heap.size, 2, none⟩ = some (.slice aT ts.length cT) ∧ wx.cell? ⟨w.heap.size, 3, none⟩ = some (.slice aX xs.length cX)) := fun wx hx => boxS ((hx.block w.heap.size (by omega)).trans (MapKept.heap_alloc w _).1)
 have HB0 : Hid (∀ wx : World, Below (w.heap.size + 1) (w.alloc (.cells #[.string nm, .bool bad, .slice aT ts.length cT, .slice aX xs.length cX] 41)) wx → Below w.heap.size w wx) := fun wx hx => hB1.trans (hx.mono (by omega))
 have HS1 : Hid ((w.alloc (.cells #[.string nm, .bool bad, .slice aT ts.length cT, .slice aX xs.length cX] 41)).heap.size = w.heap.size + 1) := by show _ = _; simp
 obtain ⟨RR, hRR⟩ : ∃ RR, RR = sumRight n nm bad ts xs := ⟨_, rfl⟩
 rw [← hRR]
 have HNO : Hid (¬ SumAsk n nm bad ts xs → RR = false) := fun h => by rw [hRR]; cases hs : sumRight n nm bad ts xs with
  | false => rfl
  | true => exact absurd (sum_ask.1 hs) h
 have HYES : Hid (SumAsk n nm bad ts xs → RR = true) := fun h => by rw [hRR]; exact sum_ask.2 h
 have HLT : Hid (type_of% helT) := helT
 have HLX : Hid (type_of% helX) := helX
 have HNT : Hid (type_of% hnT) := hnT
 have HNX : Hid (type_of% hnX) := hnX
 clear hRR helT helX hT hX hbk hendT hendX hbT hbX hnT hnX
 go_enter Tryz.func30, Tryz.ntmps30
 go_wp2_with fail
 refine (HNM.out nm _ hns).mono ?_
 rintro e w1 ⟨rfl, hb1⟩
 generalize (w.alloc (.cells #[.string nm, .bool bad, .slice aT ts.length cT, .slice aX xs.length cX] 41)) = W1 at *
 rw [HS1.out] at hb1
 have hw1 := HB0.out _ hb1
 obtain ⟨_, b1, b2, b3⟩ := HBX.out _ hb1
 have hs1 : w.heap.size + 1 ≤ w1.heap.size := by have := hb1.size; rw [HS1.out] at this; exact this
 cases hnm : Lx.nameOkP nm with
 | false =>
  have HR : Hid (RR = false) := HNO.out fun h => by have := h.1; rw [hnm] at this; cases this
  clear hnm HNO HYES
  go_wp2_with fail
  go_ret
  exact ⟨by rw [HR.out]; rfl, hw1⟩
 | true =>
  go_wp2_with fail
  refine (HET.out _ hw1).mono ?_
  rintro e w2 ⟨rfl, hb2⟩
  have hb12 := hb1.trans (hb2.mono hs1)
  have hs2 : w.heap.size + 1 ≤ w2.heap.size := Nat.le_trans hs1 hb2.size
  have hw2 := HB0.out _ hb12
  obtain ⟨_, c1, c2, c3⟩ := HBX.out _ hb12
  clear HET hb1 hb2 hs1 hw1 b1 b2 b3
  by_cases hr1 : EnvRight n ts
  ·rw [decide_eq_true hr1]
   go_wp2_with fail
   refine (HEX.out _ hw2).mono ?_
   rintro e w3 ⟨rfl, hb3⟩
   have hb13 := hb12.trans (hb3.mono hs2)
   have hs3 : w.heap.size + 1 ≤ w3.heap.size := Nat.le_trans hs2 hb3.size
   have hw3 := HB0.out _ hb13
   obtain ⟨_, d1, d2, d3⟩ := HBX.out _ hb13
   clear HEX hb12 hb3 hs2 hw2 c1 c2 c3
   by_cases hr2 : EnvRight n xs
   ·rw [decide_eq_true hr2]
    by_cases hbl : bad = true ∧ 0 < ts.length + xs.length
    ·obtain ⟨rfl, hp⟩ := hbl
     have HR : Hid (RR = false) := HNO.out fun h => by have := h.2.2.2.1 rfl; omega
     have hgi : (0 : Int) < (ts.length : Int) + (xs.length : Int) := by omega
     clear hnm HNO HYES hr1 hr2 hp
     go_wp2_with fail
     go_ret
     exact ⟨by rw [HR.out]; rfl, hw3⟩
    ·have HBL : Hid (bad = true → ts.length + xs.length = 0) := fun h => by
      by_cases c : 0 < ts.length + xs.length
      ·exact absurd ⟨h, c⟩ hbl
      ·omega
     have hgi : bad = true → ¬ (0 : Int) < (ts.length : Int) + (xs.length : Int) := fun h => by have := HBL.out h; omega
     have HQ : Hid ((∀ j (h : j < ts.length), Lx.nameOkP ts[j].1 = false) → (∀ j (h : j < xs.length), Lx.nameOkP xs[j].1 = true) → ReachedAll n ts xs → RR = true) := fun h1 h2 h3 => HYES.out ⟨hnm, hr1, hr2, HBL.out, h1, h2, h3⟩
     have HN1 : Hid (∀ j (h : j < ts.length), Lx.nameOkP ts[j].1 = true → RR = false) := fun j h k => HNO.out fun q => by have := q.2.2.2.2.1 j h; rw [k] at this; cases this
     have HN2 : Hid (∀ j (h : j < xs.length), Lx.nameOkP xs[j].1 = false → RR = false) := fun j h k => HNO.out fun q => by have := q.2.2.2.2.2.1 j h; rw [k] at this; cases this
     have HN3 : Hid (¬ ReachedAll n ts xs → RR = false) := fun k => HNO.out fun q => k q.2.2.2.2.2.2
     clear hbl hnm hr1 hr2 HNO HYES HBL hB1
     cases bad
     all_goals
      first | have hg2 := hgi rfl | skip
      clear hgi
      go_wp2_with fail
      first | clear hg2 | skip
      generalize decide ((0 : Int) < (ts.length : Int) + (xs.length : Int)) = dd at *
      generalize (ts.length : Int) + (xs.length : Int) = dz at *
      clear hw3 d1 d2 d3
      go_loopw [3] (fun i wr => ∃ k : Nat, k ≤ ts.length ∧ i = .int .i64 k ∧ (∀ j (h : j < ts.length), j < k → Lx.nameOkP ts[j].1 = false) ∧ Below (w.heap.size + 1) W1 wr) (fun i _ => ts.length - (intOf i).toNat)
      case atStart => exact ⟨0, Nat.zero_le _, rfl, fun j _ h => absurd h (by omega), hb13⟩
      case round =>
       clear hb13 hs3
       obtain ⟨k, hk, rfl, hall, hbe⟩ := hrel
       obtain ⟨w4, rfl⟩ : ∃ w4, w4 = wr := ⟨_, rfl⟩
       have hwe := HB0.out _ hbe
       obtain ⟨_, _, f2, f3⟩ := HBX.out _ hbe
       have hse : w.heap.size + 1 ≤ w4.heap.size := by have := hbe.size; rw [HS1.out] at this; exact this
       have HALL : Hid (type_of% hall) := hall
       clear hall
       by_cases hlt : k < ts.length
       ·obtain ⟨b, off, x0, x1, x2, x3, rfl, hbl, _, _, q0, _, _, _, _⟩ := HLT.out k hlt
        have c0 := (hwe.cell (p := ⟨b, off + k * 5, none⟩) hbl).trans q0
        have HC : Hid (type_of% (HNM.out ts[k].1 w4 (HNT.out k hlt))) := HNM.out ts[k].1 w4 (HNT.out k hlt)
        have hk0i : (0 : Int) ≤ (k : Int) := by omega
        have hk1i : (k : Int) < (ts.length : Int) := by omega
        cases hd : Lx.nameOkP ts[k].1 with
        | true =>
         have HR : Hid (RR = false) := HN1.out k hlt hd
         rw [hd] at HC
         clear hd q0 HALL HN1 HN2 HN3 HQ HLT HLX HNT HNX HRA HNM
         generalize ts[k].1 = x at *
         go_wp2_with fail
         refine HC.out.mono ?_
         rintro e w5 ⟨rfl, hb5⟩
         have hw5 := hwe.trans (hb5.mono hwe.size)
         go_wp2_with fail
         go_ret
         exact ⟨by rw [HR.out]; rfl, hw5⟩
        | false =>
         have HA2 : Hid (∀ j (h : j < ts.length), j < k + 1 → Lx.nameOkP ts[j].1 = false) := fun j hj hjk => by
          by_cases c : j = k
          ·subst c; exact hd
          ·exact HALL.out j hj (by omega)
         rw [hd] at HC
         clear hd q0 HALL HN1 HN2 HN3 HQ HLT HLX HNT HNX HRA HNM
         generalize ts[k].1 = x at *
         go_wp2_with fail
         refine HC.out.mono ?_
         rintro e w5 ⟨rfl, hb5⟩
         have hw5 := hbe.trans (hb5.mono hse)
         clear HC c0 f2 f3 hb5
         go_wp2_with fail
         go_roundw
         case rel => exact ⟨k + 1, by omega, by go_num, HA2.out, hw5⟩
         case measure => simp [intOf]; omega
       ·have HA1 : Hid (∀ j (h : j < ts.length), Lx.nameOkP ts[j].1 = false) := fun j h => HALL.out j h (by omega)
        clear HALL HN1
        go_wp2_with fail
        clear f2 f3 hwe
        go_loopw [4] (fun i wr => ∃ k : Nat, k ≤ xs.length ∧ i = .int .i64 k ∧ (∀ j (h : j < xs.length), j < k → Lx.nameOkP xs[j].1 = true) ∧ Below (w.heap.size + 1) W1 wr) (fun i _ => xs.length - (intOf i).toNat)
        case atStart => exact ⟨0, Nat.zero_le _, rfl, fun j _ h => absurd h (by omega), hbe⟩
        case round =>
         clear hbe hse
         obtain ⟨m, hm, rfl, hall, hbe⟩ := hrel
         obtain ⟨w6, rfl⟩ : ∃ w6, w6 = wr := ⟨_, rfl⟩
         have hwe := HB0.out _ hbe
         obtain ⟨_, _, f2, f3⟩ := HBX.out _ hbe
         have hse : w.heap.size + 1 ≤ w6.heap.size := by have := hbe.size; rw [HS1.out] at this; exact this
         have HALL : Hid (type_of% hall) := hall
         clear hall
         by_cases hlm : m < xs.length
         ·obtain ⟨b, off, x0, x1, x2, x3, rfl, hbl, _, _, q0, _, _, _, _⟩ := HLX.out m hlm
          have c0 := (hwe.cell (p := ⟨b, off + m * 5, none⟩) hbl).trans q0
          have HC : Hid (type_of% (HNM.out xs[m].1 w6 (HNX.out m hlm))) := HNM.out xs[m].1 w6 (HNX.out m hlm)
          have hk0i : (0 : Int) ≤ (m : Int) := by omega
          have hk1i : (m : Int) < (xs.length : Int) := by omega
          cases hd : Lx.nameOkP xs[m].1 with
          | false =>
           have HR : Hid (RR = false) := HN2.out m hlm hd
           rw [hd] at HC
           clear hd q0 HALL HN2 HN3 HQ HLT HLX HNT HNX HRA HNM HA1
           generalize xs[m].1 = x at *
           go_wp2_with fail
           refine HC.out.mono ?_
           rintro e w5 ⟨rfl, hb5⟩
           have hw5 := hwe.trans (hb5.mono hwe.size)
           go_wp2_with fail
           go_ret
           exact ⟨by rw [HR.out]; rfl, hw5⟩
          | true =>
           have HA2 : Hid (∀ j (h : j < xs.length), j < m + 1 → Lx.nameOkP xs[j].1 = true) := fun j hj hjk => by
            by_cases c : j = m
            ·subst c; exact hd
            ·exact HALL.out j hj (by omega)
           rw [hd] at HC
           clear hd q0 HALL HN2 HN3 HQ HLT HLX HNT HNX HRA HNM HA1
           generalize xs[m].1 = x at *
           go_wp2_with fail
           refine HC.out.mono ?_
           rintro e w5 ⟨rfl, hb5⟩
           have hw5 := hbe.trans (hb5.mono hse)
           clear HC c0 f2 f3 hb5
           go_wp2_with fail
           go_roundw
           case rel => exact ⟨m + 1, by omega, by go_num, HA2.out, hw5⟩
           case measure => simp [intOf]; omega
         ·have HYE : Hid (ReachedAll n ts xs → RR = true) := fun h3 => HQ.out HA1.out (fun j h => HALL.out j h (by omega)) h3
          clear HALL HN2 HQ HA1 HNX HNT HLX HNM
          go_wp2_with fail
          refine (HRA.out _ hwe).mono ?_
          rintro e w7 ⟨g, cap, r, rfl, hcr, hrl, hre, hb7⟩
          have hb17 := hbe.trans (hb7.mono hse)
          have hs7 : w.heap.size + 1 ≤ w7.heap.size := Nat.le_trans hse hb7.size
          have hw7 := HB0.out _ hb17
          obtain ⟨_, _, g2, g3⟩ := HBX.out _ hb17
          have HCR : Hid (type_of% hcr) := hcr
          have HYE2 : Hid (ts.map (·.1) = r → RR = true) := fun h => HYE.out (hre.1 h)
          have HNE : Hid (ts.map (·.1) ≠ r → RR = false) := fun h => HN3.out fun q => h (hre.2 q)
          clear HRA hcr hre hb7 HYE HN3 hbe hwe f2 f3
          by_cases hl : r.length = ts.length
          ·have HL : Hid (r.length = ts.length) := hl
           rw [hl]
           clear hl
           have HCK : Hid (∀ k, k < ts.length → ∃ y, (∀ h : k < r.length, r[k] = y) ∧ g < w7.heap.size ∧ w7.cell? ⟨g, k, none⟩ = some (.string y)) := fun k hk => by
            have h1 := HCR.out k (by rw [HL.out]; exact hk)
            exact ⟨_, fun _ => rfl, World.block_lt_of_cell? w7 ⟨g, k, none⟩ h1, h1⟩
           clear HCR hrl
           go_wp2_with fail
           go_loopw [6] (fun i wr => ∃ k : Nat, k ≤ ts.length ∧ i = .int .i64 k ∧ (∀ j (h : j < r.length) (h' : j < ts.length), j < k → r[j] = ts[j].1) ∧ Below w7.heap.size w7 wr) (fun i _ => ts.length - (intOf i).toNat)
           case atStart => exact ⟨0, Nat.zero_le _, rfl, fun j _ _ h => absurd h (by omega), Below.refl _ _⟩
           case round =>
            obtain ⟨q, hq, rfl, hall, hb8⟩ := hrel
            obtain ⟨w8, rfl⟩ : ∃ w8, w8 = wr := ⟨_, rfl⟩
            have HALL : Hid (type_of% hall) := hall
            have hw8 := hw7.trans (hb8.mono hw7.size)
            have f2 := (hb8.cell (p := ⟨w.heap.size, 2, none⟩) (by exact hs7)).trans g2
            clear hall
            by_cases hlq : q < ts.length
            ·obtain ⟨b, off, x0, x1, x2, x3, rfl, hbl, _, _, q0, _, _, _, _⟩ := HLT.out q hlq
             have c0 := (hw8.cell (p := ⟨b, off + q * 5, none⟩) hbl).trans q0
             obtain ⟨y, hy, hgl, hcy⟩ := HCK.out q hlq
             have c1 := (hb8.cell (p := ⟨g, q, none⟩) hgl).trans hcy
             have hk0i : (0 : Int) ≤ (q : Int) := by omega
             have hk1i : (q : Int) < (ts.length : Int) := by omega
             have hD : Below w.heap.size w w8.drew := hw8.drew
             have hD8 : Below w7.heap.size w7 w8.drew := hb8.drew
             by_cases he : y = ts[q].1
             ·have HA2 : Hid (∀ j (h : j < r.length) (h' : j < ts.length), j < q + 1 → r[j] = ts[j].1) := fun j h h' hjk => by
               by_cases c : j = q
               ·subst c; exact (hy h).trans he
               ·exact HALL.out j h h' (by omega)
              rw [he] at c1
              clear he hy hcy q0 HALL HCK HLT HNE HYE2
              generalize ts[q].1 = x at *
              go_wp2_with fail
              go_region
              all_goals
               go_wp2_with fail
               first | go_roundw | skip
              all_goals first
               | exact ⟨⟨q + 1, by omega, by go_num, HA2.out, hD8⟩, by simp [intOf]; omega⟩
               | exact ⟨q + 1, by omega, by go_num, HA2.out, hD8⟩
               | (simp [intOf]; omega)
             ·have HR : Hid (RR = false) := HNE.out fun h => he (by
               have hr : q < r.length := by rw [HL.out]; exact hlq
               rw [← hy hr]
               have h9 : r[q]? = some ts[q].1 := by rw [← h, List.getElem?_map, List.getElem?_eq_getElem hlq]; rfl
               rw [List.getElem?_eq_getElem hr] at h9
               exact Option.some.inj h9)
              clear hy hcy q0 HALL HCK HLT HNE HYE2
              generalize ts[q].1 = x at *
              have hn1 : (y.toList == x.toList) = false := same_noS he
              clear he
              go_wp2_with fail
              go_region
              all_goals
               go_wp2_with fail
               go_ret
               exact ⟨by rw [HR.out]; rfl, hD⟩
            ·have HR : Hid (RR = true) := HYE2.out (List.ext_getElem (by rw [List.length_map, HL.out]) fun j h1 h2 => by
              rw [List.getElem_map]
              exact (HALL.out j h2 (by rw [List.length_map] at h1; exact h1) (by rw [List.length_map] at h1; omega)).symm)
             clear HALL HCK HLT HNE HYE2
             go_wp2_with fail
             go_ret
             exact ⟨by rw [HR.out]; rfl, hw8⟩
          ·have HR : Hid (RR = false) := HNE.out fun h => hl (by rw [← h, List.length_map])
           have hli : ¬ (r.length : Int) = (ts.length : Int) := by omega
           clear hl
           go_wp2_with fail
           go_ret
           exact ⟨by rw [HR.out]; rfl, hw7⟩
   ·rw [decide_eq_false hr2]
    have HR : Hid (RR = false) := HNO.out fun h => hr2 h.2.2.1
    clear hnm HNO HYES hr1 hr2
    go_wp2_with fail
    go_ret
    exact ⟨by rw [HR.out]; rfl, hw3⟩
  ·rw [decide_eq_false hr1]
   have HR : Hid (RR = false) := HNO.out fun h => hr1 h.2.1
   clear hnm HNO HYES hr1
   go_wp2_with fail
   go_ret
   exact ⟨by rw [HR.out]; rfl, hw2⟩
end Go.Proofs.YtbojmbeopnlmiaaGreatDoor

/-
  The walks of the laws' own helpers szExp, szExpS, szDef, szDefS and szModule: how much is held, or -1 where it is more than is left.
-/
import Derived.Test.YtegdladpkikicaaXpD
namespace Go.Proofs.Ytegdladpkikicaa
open Go.RowKit

theorem szTextsL (v : Value) (ts : List ByteArray) (w : World) (hT : Texts w v ts) (hl : ts.length ≤ maxLen) (hs : ∀ t ∈ ts, t.size ≤ maxLen) : ∀ X : World, Below w.heap.size w X → ∀ l : Int, 0 ≤ l → l ≤ 1048576 → Calls Try.prog 9 #[v, .int .i64 l] X fun e w' => e = .returned (.int .i64 (leftA (ts.length + sumS ts) l)) ∧ Below X.heap.size X w' := fun X hX l a b => by
  refine (lawsSz v ts l X (hT.below hX) hl hs (by omega) b).mono ?_
  rintro e w' ⟨rfl, rfl⟩
  refine ⟨?_, Below.refl _ _⟩
  congr 2
  unfold szS leftA
  by_cases c : (ts.length : Int) + sumS ts ≤ l
  · rw [if_pos c, if_pos (by omega)]; omega
  · rw [if_neg c, if_neg (by omega)]

set_option maxHeartbeats 1600000 in
set_option maxRecDepth 100000 in
theorem szExpC (kd nn ln : Int) (tx : ByteArray) (vk vn : Value) (B1 B2 : Nat) (left : Int) (w : World) (hd : tx.size ≤ maxLen)
    (C0 : ∀ X : World, Below w.heap.size w X → ∀ l : Int, 0 ≤ l → l ≤ 1048576 → Calls Try.prog 9 #[vn, .int .i64 l] X fun e w' => e = .returned (.int .i64 (leftA B1 l)) ∧ Below X.heap.size X w')
    (C1 : ∀ X : World, Below w.heap.size w X → ∀ l : Int, 0 ≤ l → l ≤ 1048576 → Calls Try.prog 41 #[vk, .int .i64 l] X fun e w' => e = .returned (.int .i64 (leftA B2 l)) ∧ Below X.heap.size X w')
    (h0 : 0 ≤ left) (h1 : left ≤ 1048576) :
    Calls Try.prog 28 #[.agg #[.int .i64 kd, .string tx, .int .i64 nn, .int .i64 ln, vn, vk], .int .i64 left] w fun e w' => e = .returned (.int .i64 (leftA (tx.size + B1 + B2) left)) ∧ Below w.heap.size w w' := by
  unfold maxLen at hd
  have hB1 : Below w.heap.size w (w.alloc (.cells #[.int .i64 kd, .string tx, .int .i64 nn, .int .i64 ln, vn, vk] 57)) := (Below.refl _ _).alloc (Nat.le_refl _) _
  have HA : Hid (∀ X : World, Below (w.heap.size + 1) (w.alloc (.cells #[.int .i64 kd, .string tx, .int .i64 nn, .int .i64 ln, vn, vk] 57)) X → (X.cell? ⟨w.heap.size, 0, none⟩ = some (.int .i64 kd) ∧ X.cell? ⟨w.heap.size, 1, none⟩ = some (.string tx) ∧ X.cell? ⟨w.heap.size, 2, none⟩ = some (.int .i64 nn) ∧ X.cell? ⟨w.heap.size, 3, none⟩ = some (.int .i64 ln) ∧ X.cell? ⟨w.heap.size, 4, none⟩ = some (vn) ∧ X.cell? ⟨w.heap.size, 5, none⟩ = some (vk)) ∧ Below w.heap.size w X) := fun X hX => by
    have hr := (hX.block w.heap.size (by omega)).trans (MapKept.heap_alloc w (.cells #[.int .i64 kd, .string tx, .int .i64 nn, .int .i64 ln, vn, vk] 57)).1
    exact ⟨⟨by rw [cell_of_row _ _ 0 _ _ (0, 0) hr]; rfl, by rw [cell_of_row _ _ 1 _ _ (0, 0) hr]; rfl, by rw [cell_of_row _ _ 2 _ _ (0, 0) hr]; rfl, by rw [cell_of_row _ _ 3 _ _ (0, 0) hr]; rfl, by rw [cell_of_row _ _ 4 _ _ (0, 0) hr]; rfl, by rw [cell_of_row _ _ 5 _ _ (0, 0) hr]; rfl⟩, hB1.trans (hX.mono (by omega))⟩
  have D0 : Hid (type_of% C0) := C0
  have D1 : Hid (type_of% C1) := C1
  clear C0 C1
  by_cases d0 : left - (tx.size : Nat) < 0
  · have HR : Hid (leftA (tx.size + B1 + B2) left = -1) := if_neg (by omega)
    clear D0 D1
    go_enter Try.func28, Try.ntmps28
    go_wp2_with fail
    go_ret
    exact ⟨by rw [HR.out]; rfl, hB1⟩
  · have n0 : ¬ left - (tx.size : Nat) < 0 := d0
    by_cases d1 : (left - (tx.size : Nat) - (B1 : Nat)) < 0
    · have e0 : leftA B1 (left - (tx.size : Nat)) = -1 := if_neg (by omega)
      have HR : Hid (leftA (tx.size + B1 + B2) left = -1) := if_neg (by omega)
      have F := D0.out (w.alloc (.cells #[.int .i64 kd, .string tx, .int .i64 nn, .int .i64 ln, vn, vk] 57)) hB1 (left - (tx.size : Nat)) (by omega) (by omega)
      rw [e0] at F
      have E0 : Hid (type_of% F) := F
      clear F e0 d1 D0 D1
      go_enter Try.func28, Try.ntmps28
      go_wp2_with fail
      refine (E0.out).mono ?_
      rintro e w1 ⟨rfl, hb1⟩
      have G1 : Below (w.heap.size + 1) (w.alloc (.cells #[.int .i64 kd, .string tx, .int .i64 nn, .int .i64 ln, vn, vk] 57)) w1 := hb1.mono (by simp)
      have z1 : w.heap.size + 1 ≤ w1.heap.size := by have := G1.size; simpa using this
      obtain ⟨⟨y1_0, y1_1, y1_2, y1_3, y1_4, y1_5⟩, q1⟩ := HA.out _ G1
      clear E0
      go_wp2_with fail
      go_ret
      exact ⟨by rw [HR.out]; rfl, q1⟩
    · have n1 : ¬ (left - (tx.size : Nat) - (B1 : Nat)) < 0 := d1
      have e0 : leftA B1 (left - (tx.size : Nat)) = left - (tx.size : Nat) - (B1 : Nat) := if_pos (by omega)
      have F0 := D0.out (w.alloc (.cells #[.int .i64 kd, .string tx, .int .i64 nn, .int .i64 ln, vn, vk] 57)) hB1 (left - (tx.size : Nat)) (by omega) (by omega)
      rw [e0] at F0
      have E0 : Hid (type_of% F0) := F0
      clear F0 e0 D0
      by_cases d2 : (left - (tx.size : Nat) - (B1 : Nat) - (B2 : Nat)) < 0
      · have e1 : leftA B2 (left - (tx.size : Nat) - (B1 : Nat)) = -1 := if_neg (by omega)
        have HR : Hid (leftA (tx.size + B1 + B2) left = -1) := if_neg (by omega)
        have F := fun X hX => D1.out X hX (left - (tx.size : Nat) - (B1 : Nat)) (by omega) (by omega)
        simp only [e1] at F
        have E1 : Hid (type_of% F) := F
        clear F e1 d2 D1
        go_enter Try.func28, Try.ntmps28
        go_wp2_with fail
        refine (E0.out).mono ?_
        rintro e w1 ⟨rfl, hb1⟩
        have G1 : Below (w.heap.size + 1) (w.alloc (.cells #[.int .i64 kd, .string tx, .int .i64 nn, .int .i64 ln, vn, vk] 57)) w1 := hb1.mono (by simp)
        have z1 : w.heap.size + 1 ≤ w1.heap.size := by have := G1.size; simpa using this
        obtain ⟨⟨y1_0, y1_1, y1_2, y1_3, y1_4, y1_5⟩, q1⟩ := HA.out _ G1
        go_wp2_with fail
        refine (E1.out _ q1).mono ?_
        rintro e w2 ⟨rfl, hb2⟩
        have G2 := G1.trans (hb2.mono z1)
        have z2 : w.heap.size + 1 ≤ w2.heap.size := by have := G2.size; simpa using this
        obtain ⟨⟨y2_0, y2_1, y2_2, y2_3, y2_4, y2_5⟩, q2⟩ := HA.out _ G2
        clear E0 E1
        go_wp2_with fail
        go_ret
        exact ⟨by rw [HR.out]; rfl, q2⟩
      · have n2 : ¬ (left - (tx.size : Nat) - (B1 : Nat) - (B2 : Nat)) < 0 := d2
        have e1 : leftA B2 (left - (tx.size : Nat) - (B1 : Nat)) = left - (tx.size : Nat) - (B1 : Nat) - (B2 : Nat) := if_pos (by omega)
        have F1 := fun X hX => D1.out X hX (left - (tx.size : Nat) - (B1 : Nat)) (by omega) (by omega)
        simp only [e1] at F1
        have E1 : Hid (type_of% F1) := F1
        clear F1 e1 D1
        have HR : Hid (leftA (tx.size + B1 + B2) left = left - (tx.size : Nat) - (B1 : Nat) - (B2 : Nat)) := by
          show _ = _
          unfold leftA
          rw [if_pos (by omega)]
          omega
        go_enter Try.func28, Try.ntmps28
        go_wp2_with fail
        refine (E0.out).mono ?_
        rintro e w1 ⟨rfl, hb1⟩
        have G1 : Below (w.heap.size + 1) (w.alloc (.cells #[.int .i64 kd, .string tx, .int .i64 nn, .int .i64 ln, vn, vk] 57)) w1 := hb1.mono (by simp)
        have z1 : w.heap.size + 1 ≤ w1.heap.size := by have := G1.size; simpa using this
        obtain ⟨⟨y1_0, y1_1, y1_2, y1_3, y1_4, y1_5⟩, q1⟩ := HA.out _ G1
        go_wp2_with fail
        refine (E1.out _ q1).mono ?_
        rintro e w2 ⟨rfl, hb2⟩
        have G2 := G1.trans (hb2.mono z1)
        have z2 : w.heap.size + 1 ≤ w2.heap.size := by have := G2.size; simpa using this
        obtain ⟨⟨y2_0, y2_1, y2_2, y2_3, y2_4, y2_5⟩, q2⟩ := HA.out _ G2
        clear E0 E1
        go_wp2_with fail
        go_ret
        exact ⟨by rw [HR.out]; rfl, q2⟩

set_option maxHeartbeats 1600000 in
set_option maxRecDepth 100000 in
theorem lawsSzXps (n : Nat) (ih : ∀ (cs : List Value) (t : Xp) (left : Int) (w : World), XpAt w n cs t → 0 ≤ left → left ≤ 1048576 →
      Calls Try.prog 28 #[.agg cs.toArray, .int .i64 left] w fun e w' => e = .returned (.int .i64 (leftA (Xp.bulk n t) left)) ∧ Below w.heap.size w w')
    (v : Value) (ks : List Xp) (left : Int) (w : World) (hrow : RowG 6 w (XpAt w n) v ks) (hkl : ks.length ≤ maxLen) (h0 : 0 ≤ left) (h1 : left ≤ 1048576) :
    Calls Try.prog 41 #[v, .int .i64 left] w fun e w' => e = .returned (.int .i64 (leftA (bulkA (Xp.bulk n) ks) left)) ∧ Below w.heap.size w w' := by
  unfold maxLen at hkl
  obtain ⟨av, capv, rfl, hel⟩ := hrow.open fun cs t h => by rw [h.len]; decide
  have HEL : Hid (type_of% hel) := hel
  have IH : Hid (type_of% ih) := ih
  clear hrow hel ih
  by_cases hneg : left - (ks.length : Int) < 0
  · have HR : Hid (leftA (bulkA (Xp.bulk n) ks) left = -1) := if_neg (by unfold bulkA; omega)
    clear HEL IH
    go_enter Try.func41, Try.ntmps41
    go_wp2_with fail
    go_ret
    exact ⟨by rw [HR.out]; rfl, Below.refl _ _⟩
  · go_enter Try.func41, Try.ntmps41
    go_wp2_with fail
    go_loopw [1, 5] (fun l i wr => ∃ k : Nat, k ≤ ks.length ∧ i = .int .i64 k ∧ l = .int .i64 (left - ks.length - (sumA (Xp.bulk n) (ks.take k) : Nat)) ∧ ((sumA (Xp.bulk n) (ks.take k) : Nat) : Int) ≤ left - ks.length ∧ Below w.heap.size w wr) (fun _ i _ => ks.length - (intOf i).toNat)
    case atStart => exact ⟨0, Nat.zero_le _, rfl, by simp [sumA], by simp [sumA]; omega, Below.refl _ _⟩
    case round =>
      obtain ⟨k, hk, rfl, rfl, hle, hbe⟩ := hrel
      by_cases hlt : k < ks.length
      · obtain ⟨b, off, cs', rfl, hbl, hty, hcell⟩ := HEL.out k hlt
        have hty2 := hty.below hbe
        have hlen := hty.len
        have HM : Hid (type_of% (sumA_more (Xp.bulk n) ks k hlt)) := sumA_more (Xp.bulk n) ks k hlt
        have HL : Hid (type_of% (sumA_le (Xp.bulk n) ks (k + 1))) := sumA_le (Xp.bulk n) ks (k + 1)
        match cs', hlen with
        | [x0, x1, x2, x3, x4, x5], _ =>
          have c0 : wr.cell? ⟨b, off + k * 6, none⟩ = some x0 := (hbe.cell (p := ⟨b, off + k * 6 + 0, none⟩) hbl).trans (hcell 0 x0 rfl)
          have c1 : wr.cell? ⟨b, off + k * 6 + 1, none⟩ = some x1 := (hbe.cell (p := ⟨b, off + k * 6 + 1, none⟩) hbl).trans (hcell 1 x1 rfl)
          have c2 : wr.cell? ⟨b, off + k * 6 + 2, none⟩ = some x2 := (hbe.cell (p := ⟨b, off + k * 6 + 2, none⟩) hbl).trans (hcell 2 x2 rfl)
          have c3 : wr.cell? ⟨b, off + k * 6 + 3, none⟩ = some x3 := (hbe.cell (p := ⟨b, off + k * 6 + 3, none⟩) hbl).trans (hcell 3 x3 rfl)
          have c4 : wr.cell? ⟨b, off + k * 6 + 4, none⟩ = some x4 := (hbe.cell (p := ⟨b, off + k * 6 + 4, none⟩) hbl).trans (hcell 4 x4 rfl)
          have c5 : wr.cell? ⟨b, off + k * 6 + 5, none⟩ = some x5 := (hbe.cell (p := ⟨b, off + k * 6 + 5, none⟩) hbl).trans (hcell 5 x5 rfl)
          generalize hS : sumA (Xp.bulk n) (ks.take k) = S at *
          have HC : Hid (Calls Try.prog 28 #[.agg #[x0, x1, x2, x3, x4, x5], .int .i64 (left - ks.length - (S : Nat))] wr fun e w' => e = .returned (.int .i64 (leftA (Xp.bulk n ks[k]) (left - ks.length - (S : Nat)))) ∧ Below wr.heap.size wr w') := IH.out _ _ _ wr hty2 (by omega) (by omega)
          clear hS hty hty2 hcell hlen HEL IH
          generalize Xp.bulk n ks[k] = bk at *
          by_cases hbk : ((S + bk : Nat) : Int) ≤ left - ks.length
          · have e1 : leftA bk (left - ks.length - (S : Nat)) = left - ks.length - ((S + bk : Nat) : Int) := by
              unfold leftA
              rw [if_pos (by omega)]
              omega
            rw [e1] at HC
            have hnn : ¬ left - (ks.length : Int) - ((S + bk : Nat) : Int) < 0 := by omega
            clear e1
            generalize hq : S + bk = Q at *
            have HQ : Hid (sumA (Xp.bulk n) (ks.take (k + 1)) = Q) := HM.out.trans rfl
            clear hq HM HL
            go_wp2_with fail
            refine HC.out.mono ?_
            rintro e w2 ⟨rfl, hb2⟩
            have hbe2 : Below w.heap.size w w2 := hbe.trans (hb2.mono hbe.size)
            go_wp2_with fail
            go_roundw
            case rel => exact ⟨k + 1, by omega, by go_num, by rw [HQ.out], by rw [HQ.out]; exact hbk, hbe2⟩
            case measure => simp [intOf]; omega
          · have e1 : leftA bk (left - ks.length - (S : Nat)) = -1 := if_neg (by omega)
            rw [e1] at HC
            have HR : Hid (leftA (bulkA (Xp.bulk n) ks) left = -1) := if_neg (by
              have h1 := HM.out
              have h2 := HL.out
              unfold bulkA
              omega)
            clear e1 HM HL
            go_wp2_with fail
            refine HC.out.mono ?_
            rintro e w2 ⟨rfl, hb2⟩
            have hbe2 : Below w.heap.size w w2 := hbe.trans (hb2.mono hbe.size)
            go_wp2_with fail
            go_ret
            exact ⟨by rw [HR.out]; rfl, hbe2⟩
      · have hke : k = ks.length := by omega
        subst hke
        rw [List.take_of_length_le (Nat.le_refl _)] at hle ⊢
        have HR : Hid (leftA (bulkA (Xp.bulk n) ks) left = left - ks.length - (sumA (Xp.bulk n) ks : Nat)) := by
          show _ = _
          unfold leftA bulkA
          rw [if_pos (by omega)]
          omega
        generalize sumA (Xp.bulk n) ks = S at *
        clear HEL IH
        go_wp2_with fail
        go_ret
        exact ⟨by rw [HR.out]; rfl, hbe⟩

theorem lawsSzXp (n : Nat) : ∀ (cs : List Value) (t : Xp) (left : Int) (w : World), XpAt w n cs t → 0 ≤ left → left ≤ 1048576 →
    Calls Try.prog 28 #[.agg cs.toArray, .int .i64 left] w fun e w' => e = .returned (.int .i64 (leftA (Xp.bulk n t) left)) ∧ Below w.heap.size w w' := by
  induction n with
  | zero => intro cs t left w h; exact h.elim
  | succ n ih =>
    intro cs t left w h h0 h1
    obtain ⟨vn, vk, rfl, hnm, ⟨hT, hTl, hTs⟩, hkl, hrow⟩ := h
    exact szExpC t.kind t.n t.line t.text vk vn _ _ left w hnm (szTextsL vn t.names w hT hTl hTs) (fun X hX l a b => lawsSzXps n ih vk t.kids l X (hrow.below hX fun _ _ _ h => h.below hX) hkl a b) h0 h1

set_option maxHeartbeats 1600000 in
set_option maxRecDepth 100000 in
theorem szDefC (kd ln : Int) (tx : ByteArray) (td : Bool) (t0 t1 t2 t3 vp vt x0 x1 x2 x3 x4 x5 : Value) (B1 B2 B3 B4 : Nat) (left : Int) (w : World) (hd : tx.size ≤ maxLen)
    (C0 : ∀ X : World, Below w.heap.size w X → ∀ l : Int, 0 ≤ l → l ≤ 1048576 → Calls Try.prog 9 #[vp, .int .i64 l] X fun e w' => e = .returned (.int .i64 (leftA B1 l)) ∧ Below X.heap.size X w')
    (C1 : ∀ X : World, Below w.heap.size w X → ∀ l : Int, 0 ≤ l → l ≤ 1048576 → Calls Try.prog 26 #[vt, .int .i64 l] X fun e w' => e = .returned (.int .i64 (leftA B2 l)) ∧ Below X.heap.size X w')
    (C2 : ∀ X : World, Below w.heap.size w X → ∀ l : Int, 0 ≤ l → l ≤ 1048576 → Calls Try.prog 27 #[.agg #[t0, t1, t2, t3], .int .i64 l] X fun e w' => e = .returned (.int .i64 (leftA B3 l)) ∧ Below X.heap.size X w')
    (C3 : ∀ X : World, Below w.heap.size w X → ∀ l : Int, 0 ≤ l → l ≤ 1048576 → Calls Try.prog 28 #[.agg #[x0, x1, x2, x3, x4, x5], .int .i64 l] X fun e w' => e = .returned (.int .i64 (leftA B4 l)) ∧ Below X.heap.size X w')
    (h0 : 0 ≤ left) (h1 : left ≤ 1048576) :
    Calls Try.prog 21 #[.agg #[.int .i64 kd, .string tx, .int .i64 ln, vp, vt, .bool td, t0, t1, t2, t3, x0, x1, x2, x3, x4, x5], .int .i64 left] w fun e w' => e = .returned (.int .i64 (leftA (tx.size + B1 + B2 + B3 + B4) left)) ∧ Below w.heap.size w w' := by
  unfold maxLen at hd
  have hB1 : Below w.heap.size w (w.alloc (.cells #[.int .i64 kd, .string tx, .int .i64 ln, vp, vt, .bool td, t0, t1, t2, t3, x0, x1, x2, x3, x4, x5] 59)) := (Below.refl _ _).alloc (Nat.le_refl _) _
  have HA : Hid (∀ X : World, Below (w.heap.size + 1) (w.alloc (.cells #[.int .i64 kd, .string tx, .int .i64 ln, vp, vt, .bool td, t0, t1, t2, t3, x0, x1, x2, x3, x4, x5] 59)) X → (X.cell? ⟨w.heap.size, 0, none⟩ = some (.int .i64 kd) ∧ X.cell? ⟨w.heap.size, 1, none⟩ = some (.string tx) ∧ X.cell? ⟨w.heap.size, 2, none⟩ = some (.int .i64 ln) ∧ X.cell? ⟨w.heap.size, 3, none⟩ = some (vp) ∧ X.cell? ⟨w.heap.size, 4, none⟩ = some (vt) ∧ X.cell? ⟨w.heap.size, 5, none⟩ = some (.bool td) ∧ X.cell? ⟨w.heap.size, 6, none⟩ = some (t0) ∧ X.cell? ⟨w.heap.size, 7, none⟩ = some (t1) ∧ X.cell? ⟨w.heap.size, 8, none⟩ = some (t2) ∧ X.cell? ⟨w.heap.size, 9, none⟩ = some (t3) ∧ X.cell? ⟨w.heap.size, 10, none⟩ = some (x0) ∧ X.cell? ⟨w.heap.size, 11, none⟩ = some (x1) ∧ X.cell? ⟨w.heap.size, 12, none⟩ = some (x2) ∧ X.cell? ⟨w.heap.size, 13, none⟩ = some (x3) ∧ X.cell? ⟨w.heap.size, 14, none⟩ = some (x4) ∧ X.cell? ⟨w.heap.size, 15, none⟩ = some (x5)) ∧ Below w.heap.size w X) := fun X hX => by
    have hr := (hX.block w.heap.size (by omega)).trans (MapKept.heap_alloc w (.cells #[.int .i64 kd, .string tx, .int .i64 ln, vp, vt, .bool td, t0, t1, t2, t3, x0, x1, x2, x3, x4, x5] 59)).1
    exact ⟨⟨by rw [cell_of_row _ _ 0 _ _ (0, 0) hr]; rfl, by rw [cell_of_row _ _ 1 _ _ (0, 0) hr]; rfl, by rw [cell_of_row _ _ 2 _ _ (0, 0) hr]; rfl, by rw [cell_of_row _ _ 3 _ _ (0, 0) hr]; rfl, by rw [cell_of_row _ _ 4 _ _ (0, 0) hr]; rfl, by rw [cell_of_row _ _ 5 _ _ (0, 0) hr]; rfl, by rw [cell_of_row _ _ 6 _ _ (0, 0) hr]; rfl, by rw [cell_of_row _ _ 7 _ _ (0, 0) hr]; rfl, by rw [cell_of_row _ _ 8 _ _ (0, 0) hr]; rfl, by rw [cell_of_row _ _ 9 _ _ (0, 0) hr]; rfl, by rw [cell_of_row _ _ 10 _ _ (0, 0) hr]; rfl, by rw [cell_of_row _ _ 11 _ _ (0, 0) hr]; rfl, by rw [cell_of_row _ _ 12 _ _ (0, 0) hr]; rfl, by rw [cell_of_row _ _ 13 _ _ (0, 0) hr]; rfl, by rw [cell_of_row _ _ 14 _ _ (0, 0) hr]; rfl, by rw [cell_of_row _ _ 15 _ _ (0, 0) hr]; rfl⟩, hB1.trans (hX.mono (by omega))⟩
  have D0 : Hid (type_of% C0) := C0
  have D1 : Hid (type_of% C1) := C1
  have D2 : Hid (type_of% C2) := C2
  have D3 : Hid (type_of% C3) := C3
  clear C0 C1 C2 C3
  by_cases d0 : left - (tx.size : Nat) < 0
  · have HR : Hid (leftA (tx.size + B1 + B2 + B3 + B4) left = -1) := if_neg (by omega)
    clear D0 D1 D2 D3
    go_enter Try.func21, Try.ntmps21
    go_wp2_with fail
    go_ret
    exact ⟨by rw [HR.out]; rfl, hB1⟩
  · have n0 : ¬ left - (tx.size : Nat) < 0 := d0
    by_cases d1 : (left - (tx.size : Nat) - (B1 : Nat)) < 0
    · have e0 : leftA B1 (left - (tx.size : Nat)) = -1 := if_neg (by omega)
      have HR : Hid (leftA (tx.size + B1 + B2 + B3 + B4) left = -1) := if_neg (by omega)
      have F := D0.out (w.alloc (.cells #[.int .i64 kd, .string tx, .int .i64 ln, vp, vt, .bool td, t0, t1, t2, t3, x0, x1, x2, x3, x4, x5] 59)) hB1 (left - (tx.size : Nat)) (by omega) (by omega)
      rw [e0] at F
      have E0 : Hid (type_of% F) := F
      clear F e0 d1 D0 D1 D2 D3
      go_enter Try.func21, Try.ntmps21
      go_wp2_with fail
      refine (E0.out).mono ?_
      rintro e w1 ⟨rfl, hb1⟩
      have G1 : Below (w.heap.size + 1) (w.alloc (.cells #[.int .i64 kd, .string tx, .int .i64 ln, vp, vt, .bool td, t0, t1, t2, t3, x0, x1, x2, x3, x4, x5] 59)) w1 := hb1.mono (by simp)
      have z1 : w.heap.size + 1 ≤ w1.heap.size := by have := G1.size; simpa using this
      obtain ⟨⟨y1_0, y1_1, y1_2, y1_3, y1_4, y1_5, y1_6, y1_7, y1_8, y1_9, y1_10, y1_11, y1_12, y1_13, y1_14, y1_15⟩, q1⟩ := HA.out _ G1
      clear E0
      go_wp2_with fail
      go_ret
      exact ⟨by rw [HR.out]; rfl, q1⟩
    · have n1 : ¬ (left - (tx.size : Nat) - (B1 : Nat)) < 0 := d1
      have e0 : leftA B1 (left - (tx.size : Nat)) = left - (tx.size : Nat) - (B1 : Nat) := if_pos (by omega)
      have F0 := D0.out (w.alloc (.cells #[.int .i64 kd, .string tx, .int .i64 ln, vp, vt, .bool td, t0, t1, t2, t3, x0, x1, x2, x3, x4, x5] 59)) hB1 (left - (tx.size : Nat)) (by omega) (by omega)
      rw [e0] at F0
      have E0 : Hid (type_of% F0) := F0
      clear F0 e0 D0
      by_cases d2 : (left - (tx.size : Nat) - (B1 : Nat) - (B2 : Nat)) < 0
      · have e1 : leftA B2 (left - (tx.size : Nat) - (B1 : Nat)) = -1 := if_neg (by omega)
        have HR : Hid (leftA (tx.size + B1 + B2 + B3 + B4) left = -1) := if_neg (by omega)
        have F := fun X hX => D1.out X hX (left - (tx.size : Nat) - (B1 : Nat)) (by omega) (by omega)
        simp only [e1] at F
        have E1 : Hid (type_of% F) := F
        clear F e1 d2 D1 D2 D3
        go_enter Try.func21, Try.ntmps21
        go_wp2_with fail
        refine (E0.out).mono ?_
        rintro e w1 ⟨rfl, hb1⟩
        have G1 : Below (w.heap.size + 1) (w.alloc (.cells #[.int .i64 kd, .string tx, .int .i64 ln, vp, vt, .bool td, t0, t1, t2, t3, x0, x1, x2, x3, x4, x5] 59)) w1 := hb1.mono (by simp)
        have z1 : w.heap.size + 1 ≤ w1.heap.size := by have := G1.size; simpa using this
        obtain ⟨⟨y1_0, y1_1, y1_2, y1_3, y1_4, y1_5, y1_6, y1_7, y1_8, y1_9, y1_10, y1_11, y1_12, y1_13, y1_14, y1_15⟩, q1⟩ := HA.out _ G1
        go_wp2_with fail
        refine (E1.out _ q1).mono ?_
        rintro e w2 ⟨rfl, hb2⟩
        have G2 := G1.trans (hb2.mono z1)
        have z2 : w.heap.size + 1 ≤ w2.heap.size := by have := G2.size; simpa using this
        obtain ⟨⟨y2_0, y2_1, y2_2, y2_3, y2_4, y2_5, y2_6, y2_7, y2_8, y2_9, y2_10, y2_11, y2_12, y2_13, y2_14, y2_15⟩, q2⟩ := HA.out _ G2
        clear E0 E1
        go_wp2_with fail
        go_ret
        exact ⟨by rw [HR.out]; rfl, q2⟩
      · have n2 : ¬ (left - (tx.size : Nat) - (B1 : Nat) - (B2 : Nat)) < 0 := d2
        have e1 : leftA B2 (left - (tx.size : Nat) - (B1 : Nat)) = left - (tx.size : Nat) - (B1 : Nat) - (B2 : Nat) := if_pos (by omega)
        have F1 := fun X hX => D1.out X hX (left - (tx.size : Nat) - (B1 : Nat)) (by omega) (by omega)
        simp only [e1] at F1
        have E1 : Hid (type_of% F1) := F1
        clear F1 e1 D1
        by_cases d3 : (left - (tx.size : Nat) - (B1 : Nat) - (B2 : Nat) - (B3 : Nat)) < 0
        · have e2 : leftA B3 (left - (tx.size : Nat) - (B1 : Nat) - (B2 : Nat)) = -1 := if_neg (by omega)
          have HR : Hid (leftA (tx.size + B1 + B2 + B3 + B4) left = -1) := if_neg (by omega)
          have F := fun X hX => D2.out X hX (left - (tx.size : Nat) - (B1 : Nat) - (B2 : Nat)) (by omega) (by omega)
          simp only [e2] at F
          have E2 : Hid (type_of% F) := F
          clear F e2 d3 D2 D3
          go_enter Try.func21, Try.ntmps21
          go_wp2_with fail
          refine (E0.out).mono ?_
          rintro e w1 ⟨rfl, hb1⟩
          have G1 : Below (w.heap.size + 1) (w.alloc (.cells #[.int .i64 kd, .string tx, .int .i64 ln, vp, vt, .bool td, t0, t1, t2, t3, x0, x1, x2, x3, x4, x5] 59)) w1 := hb1.mono (by simp)
          have z1 : w.heap.size + 1 ≤ w1.heap.size := by have := G1.size; simpa using this
          obtain ⟨⟨y1_0, y1_1, y1_2, y1_3, y1_4, y1_5, y1_6, y1_7, y1_8, y1_9, y1_10, y1_11, y1_12, y1_13, y1_14, y1_15⟩, q1⟩ := HA.out _ G1
          go_wp2_with fail
          refine (E1.out _ q1).mono ?_
          rintro e w2 ⟨rfl, hb2⟩
          have G2 := G1.trans (hb2.mono z1)
          have z2 : w.heap.size + 1 ≤ w2.heap.size := by have := G2.size; simpa using this
          obtain ⟨⟨y2_0, y2_1, y2_2, y2_3, y2_4, y2_5, y2_6, y2_7, y2_8, y2_9, y2_10, y2_11, y2_12, y2_13, y2_14, y2_15⟩, q2⟩ := HA.out _ G2
          go_wp2_with fail
          refine (E2.out _ q2).mono ?_
          rintro e w3 ⟨rfl, hb3⟩
          have G3 := G2.trans (hb3.mono z2)
          have z3 : w.heap.size + 1 ≤ w3.heap.size := by have := G3.size; simpa using this
          obtain ⟨⟨y3_0, y3_1, y3_2, y3_3, y3_4, y3_5, y3_6, y3_7, y3_8, y3_9, y3_10, y3_11, y3_12, y3_13, y3_14, y3_15⟩, q3⟩ := HA.out _ G3
          clear E0 E1 E2
          go_wp2_with fail
          go_ret
          exact ⟨by rw [HR.out]; rfl, q3⟩
        · have n3 : ¬ (left - (tx.size : Nat) - (B1 : Nat) - (B2 : Nat) - (B3 : Nat)) < 0 := d3
          have e2 : leftA B3 (left - (tx.size : Nat) - (B1 : Nat) - (B2 : Nat)) = left - (tx.size : Nat) - (B1 : Nat) - (B2 : Nat) - (B3 : Nat) := if_pos (by omega)
          have F2 := fun X hX => D2.out X hX (left - (tx.size : Nat) - (B1 : Nat) - (B2 : Nat)) (by omega) (by omega)
          simp only [e2] at F2
          have E2 : Hid (type_of% F2) := F2
          clear F2 e2 D2
          by_cases d4 : (left - (tx.size : Nat) - (B1 : Nat) - (B2 : Nat) - (B3 : Nat) - (B4 : Nat)) < 0
          · have e3 : leftA B4 (left - (tx.size : Nat) - (B1 : Nat) - (B2 : Nat) - (B3 : Nat)) = -1 := if_neg (by omega)
            have HR : Hid (leftA (tx.size + B1 + B2 + B3 + B4) left = -1) := if_neg (by omega)
            have F := fun X hX => D3.out X hX (left - (tx.size : Nat) - (B1 : Nat) - (B2 : Nat) - (B3 : Nat)) (by omega) (by omega)
            simp only [e3] at F
            have E3 : Hid (type_of% F) := F
            clear F e3 d4 D3
            go_enter Try.func21, Try.ntmps21
            go_wp2_with fail
            refine (E0.out).mono ?_
            rintro e w1 ⟨rfl, hb1⟩
            have G1 : Below (w.heap.size + 1) (w.alloc (.cells #[.int .i64 kd, .string tx, .int .i64 ln, vp, vt, .bool td, t0, t1, t2, t3, x0, x1, x2, x3, x4, x5] 59)) w1 := hb1.mono (by simp)
            have z1 : w.heap.size + 1 ≤ w1.heap.size := by have := G1.size; simpa using this
            obtain ⟨⟨y1_0, y1_1, y1_2, y1_3, y1_4, y1_5, y1_6, y1_7, y1_8, y1_9, y1_10, y1_11, y1_12, y1_13, y1_14, y1_15⟩, q1⟩ := HA.out _ G1
            go_wp2_with fail
            refine (E1.out _ q1).mono ?_
            rintro e w2 ⟨rfl, hb2⟩
            have G2 := G1.trans (hb2.mono z1)
            have z2 : w.heap.size + 1 ≤ w2.heap.size := by have := G2.size; simpa using this
            obtain ⟨⟨y2_0, y2_1, y2_2, y2_3, y2_4, y2_5, y2_6, y2_7, y2_8, y2_9, y2_10, y2_11, y2_12, y2_13, y2_14, y2_15⟩, q2⟩ := HA.out _ G2
            go_wp2_with fail
            refine (E2.out _ q2).mono ?_
            rintro e w3 ⟨rfl, hb3⟩
            have G3 := G2.trans (hb3.mono z2)
            have z3 : w.heap.size + 1 ≤ w3.heap.size := by have := G3.size; simpa using this
            obtain ⟨⟨y3_0, y3_1, y3_2, y3_3, y3_4, y3_5, y3_6, y3_7, y3_8, y3_9, y3_10, y3_11, y3_12, y3_13, y3_14, y3_15⟩, q3⟩ := HA.out _ G3
            go_wp2_with fail
            refine (E3.out _ q3).mono ?_
            rintro e w4 ⟨rfl, hb4⟩
            have G4 := G3.trans (hb4.mono z3)
            have z4 : w.heap.size + 1 ≤ w4.heap.size := by have := G4.size; simpa using this
            obtain ⟨⟨y4_0, y4_1, y4_2, y4_3, y4_4, y4_5, y4_6, y4_7, y4_8, y4_9, y4_10, y4_11, y4_12, y4_13, y4_14, y4_15⟩, q4⟩ := HA.out _ G4
            clear E0 E1 E2 E3
            go_wp2_with fail
            go_ret
            exact ⟨by rw [HR.out]; rfl, q4⟩
          · have n4 : ¬ (left - (tx.size : Nat) - (B1 : Nat) - (B2 : Nat) - (B3 : Nat) - (B4 : Nat)) < 0 := d4
            have e3 : leftA B4 (left - (tx.size : Nat) - (B1 : Nat) - (B2 : Nat) - (B3 : Nat)) = left - (tx.size : Nat) - (B1 : Nat) - (B2 : Nat) - (B3 : Nat) - (B4 : Nat) := if_pos (by omega)
            have F3 := fun X hX => D3.out X hX (left - (tx.size : Nat) - (B1 : Nat) - (B2 : Nat) - (B3 : Nat)) (by omega) (by omega)
            simp only [e3] at F3
            have E3 : Hid (type_of% F3) := F3
            clear F3 e3 D3
            have HR : Hid (leftA (tx.size + B1 + B2 + B3 + B4) left = left - (tx.size : Nat) - (B1 : Nat) - (B2 : Nat) - (B3 : Nat) - (B4 : Nat)) := by
              show _ = _
              unfold leftA
              rw [if_pos (by omega)]
              omega
            go_enter Try.func21, Try.ntmps21
            go_wp2_with fail
            refine (E0.out).mono ?_
            rintro e w1 ⟨rfl, hb1⟩
            have G1 : Below (w.heap.size + 1) (w.alloc (.cells #[.int .i64 kd, .string tx, .int .i64 ln, vp, vt, .bool td, t0, t1, t2, t3, x0, x1, x2, x3, x4, x5] 59)) w1 := hb1.mono (by simp)
            have z1 : w.heap.size + 1 ≤ w1.heap.size := by have := G1.size; simpa using this
            obtain ⟨⟨y1_0, y1_1, y1_2, y1_3, y1_4, y1_5, y1_6, y1_7, y1_8, y1_9, y1_10, y1_11, y1_12, y1_13, y1_14, y1_15⟩, q1⟩ := HA.out _ G1
            go_wp2_with fail
            refine (E1.out _ q1).mono ?_
            rintro e w2 ⟨rfl, hb2⟩
            have G2 := G1.trans (hb2.mono z1)
            have z2 : w.heap.size + 1 ≤ w2.heap.size := by have := G2.size; simpa using this
            obtain ⟨⟨y2_0, y2_1, y2_2, y2_3, y2_4, y2_5, y2_6, y2_7, y2_8, y2_9, y2_10, y2_11, y2_12, y2_13, y2_14, y2_15⟩, q2⟩ := HA.out _ G2
            go_wp2_with fail
            refine (E2.out _ q2).mono ?_
            rintro e w3 ⟨rfl, hb3⟩
            have G3 := G2.trans (hb3.mono z2)
            have z3 : w.heap.size + 1 ≤ w3.heap.size := by have := G3.size; simpa using this
            obtain ⟨⟨y3_0, y3_1, y3_2, y3_3, y3_4, y3_5, y3_6, y3_7, y3_8, y3_9, y3_10, y3_11, y3_12, y3_13, y3_14, y3_15⟩, q3⟩ := HA.out _ G3
            go_wp2_with fail
            refine (E3.out _ q3).mono ?_
            rintro e w4 ⟨rfl, hb4⟩
            have G4 := G3.trans (hb4.mono z3)
            have z4 : w.heap.size + 1 ≤ w4.heap.size := by have := G4.size; simpa using this
            obtain ⟨⟨y4_0, y4_1, y4_2, y4_3, y4_4, y4_5, y4_6, y4_7, y4_8, y4_9, y4_10, y4_11, y4_12, y4_13, y4_14, y4_15⟩, q4⟩ := HA.out _ G4
            clear E0 E1 E2 E3
            go_wp2_with fail
            go_ret
            exact ⟨by rw [HR.out]; rfl, q4⟩

theorem lawsSzDf (n : Nat) (cs : List Value) (d : Df) (left : Int) (w : World) (h : DfAt w n cs d) (h0 : 0 ≤ left) (h1 : left ≤ 1048576) :
    Calls Try.prog 21 #[.agg cs.toArray, .int .i64 left] w fun e w' => e = .returned (.int .i64 (leftA (Df.bulk n d) left)) ∧ Below w.heap.size w w' := by
  obtain ⟨vp, vt, t0, t1, t2, t3, x0, x1, x2, x3, x4, x5, rfl, hnm, ⟨hT, hTl, hTs⟩, ⟨hkl, hrow⟩, hty, hex⟩ := h
  exact szDefC d.kind d.line d.name d.typed t0 t1 t2 t3 vp vt x0 x1 x2 x3 x4 x5 _ _ _ _ left w hnm (szTextsL vp d.params w hT hTl hTs) (fun X hX l a b => lawsSzRow n (lawsSzTy n) vt d.types l X (hrow.below hX fun _ _ _ h => h.below hX) hkl a b) (fun X hX l a b => lawsSzTy n _ d.ty l X (hty.below hX) a b) (fun X hX l a b => lawsSzXp n _ d.exp l X (hex.below hX) a b) h0 h1

set_option maxHeartbeats 1600000 in
set_option maxRecDepth 100000 in
theorem lawsSzDfs (n : Nat) (ih : ∀ (cs : List Value) (t : Df) (left : Int) (w : World), DfAt w n cs t → 0 ≤ left → left ≤ 1048576 →
      Calls Try.prog 21 #[.agg cs.toArray, .int .i64 left] w fun e w' => e = .returned (.int .i64 (leftA (Df.bulk n t) left)) ∧ Below w.heap.size w w')
    (v : Value) (ks : List Df) (left : Int) (w : World) (hrow : RowG 16 w (DfAt w n) v ks) (hkl : ks.length ≤ maxLen) (h0 : 0 ≤ left) (h1 : left ≤ 1048576) :
    Calls Try.prog 10 #[v, .int .i64 left] w fun e w' => e = .returned (.int .i64 (leftA (bulkA (Df.bulk n) ks) left)) ∧ Below w.heap.size w w' := by
  unfold maxLen at hkl
  obtain ⟨av, capv, rfl, hel⟩ := hrow.open fun cs t h => by rw [h.len]; decide
  have HEL : Hid (type_of% hel) := hel
  have IH : Hid (type_of% ih) := ih
  clear hrow hel ih
  by_cases hneg : left - (ks.length : Int) < 0
  · have HR : Hid (leftA (bulkA (Df.bulk n) ks) left = -1) := if_neg (by unfold bulkA; omega)
    clear HEL IH
    go_enter Try.func10, Try.ntmps10
    go_wp2_with fail
    go_ret
    exact ⟨by rw [HR.out]; rfl, Below.refl _ _⟩
  · go_enter Try.func10, Try.ntmps10
    go_wp2_with fail
    go_loopw [1, 5] (fun l i wr => ∃ k : Nat, k ≤ ks.length ∧ i = .int .i64 k ∧ l = .int .i64 (left - ks.length - (sumA (Df.bulk n) (ks.take k) : Nat)) ∧ ((sumA (Df.bulk n) (ks.take k) : Nat) : Int) ≤ left - ks.length ∧ Below w.heap.size w wr) (fun _ i _ => ks.length - (intOf i).toNat)
    case atStart => exact ⟨0, Nat.zero_le _, rfl, by simp [sumA], by simp [sumA]; omega, Below.refl _ _⟩
    case round =>
      obtain ⟨k, hk, rfl, rfl, hle, hbe⟩ := hrel
      by_cases hlt : k < ks.length
      · obtain ⟨b, off, cs', rfl, hbl, hty, hcell⟩ := HEL.out k hlt
        have hty2 := hty.below hbe
        have hlen := hty.len
        have HM : Hid (type_of% (sumA_more (Df.bulk n) ks k hlt)) := sumA_more (Df.bulk n) ks k hlt
        have HL : Hid (type_of% (sumA_le (Df.bulk n) ks (k + 1))) := sumA_le (Df.bulk n) ks (k + 1)
        match cs', hlen with
        | [x0, x1, x2, x3, x4, x5, x6, x7, x8, x9, x10, x11, x12, x13, x14, x15], _ =>
          have c0 : wr.cell? ⟨b, off + k * 16, none⟩ = some x0 := (hbe.cell (p := ⟨b, off + k * 16 + 0, none⟩) hbl).trans (hcell 0 x0 rfl)
          have c1 : wr.cell? ⟨b, off + k * 16 + 1, none⟩ = some x1 := (hbe.cell (p := ⟨b, off + k * 16 + 1, none⟩) hbl).trans (hcell 1 x1 rfl)
          have c2 : wr.cell? ⟨b, off + k * 16 + 2, none⟩ = some x2 := (hbe.cell (p := ⟨b, off + k * 16 + 2, none⟩) hbl).trans (hcell 2 x2 rfl)
          have c3 : wr.cell? ⟨b, off + k * 16 + 3, none⟩ = some x3 := (hbe.cell (p := ⟨b, off + k * 16 + 3, none⟩) hbl).trans (hcell 3 x3 rfl)
          have c4 : wr.cell? ⟨b, off + k * 16 + 4, none⟩ = some x4 := (hbe.cell (p := ⟨b, off + k * 16 + 4, none⟩) hbl).trans (hcell 4 x4 rfl)
          have c5 : wr.cell? ⟨b, off + k * 16 + 5, none⟩ = some x5 := (hbe.cell (p := ⟨b, off + k * 16 + 5, none⟩) hbl).trans (hcell 5 x5 rfl)
          have c6 : wr.cell? ⟨b, off + k * 16 + 6, none⟩ = some x6 := (hbe.cell (p := ⟨b, off + k * 16 + 6, none⟩) hbl).trans (hcell 6 x6 rfl)
          have c7 : wr.cell? ⟨b, off + k * 16 + 7, none⟩ = some x7 := (hbe.cell (p := ⟨b, off + k * 16 + 7, none⟩) hbl).trans (hcell 7 x7 rfl)
          have c8 : wr.cell? ⟨b, off + k * 16 + 8, none⟩ = some x8 := (hbe.cell (p := ⟨b, off + k * 16 + 8, none⟩) hbl).trans (hcell 8 x8 rfl)
          have c9 : wr.cell? ⟨b, off + k * 16 + 9, none⟩ = some x9 := (hbe.cell (p := ⟨b, off + k * 16 + 9, none⟩) hbl).trans (hcell 9 x9 rfl)
          have c10 : wr.cell? ⟨b, off + k * 16 + 10, none⟩ = some x10 := (hbe.cell (p := ⟨b, off + k * 16 + 10, none⟩) hbl).trans (hcell 10 x10 rfl)
          have c11 : wr.cell? ⟨b, off + k * 16 + 11, none⟩ = some x11 := (hbe.cell (p := ⟨b, off + k * 16 + 11, none⟩) hbl).trans (hcell 11 x11 rfl)
          have c12 : wr.cell? ⟨b, off + k * 16 + 12, none⟩ = some x12 := (hbe.cell (p := ⟨b, off + k * 16 + 12, none⟩) hbl).trans (hcell 12 x12 rfl)
          have c13 : wr.cell? ⟨b, off + k * 16 + 13, none⟩ = some x13 := (hbe.cell (p := ⟨b, off + k * 16 + 13, none⟩) hbl).trans (hcell 13 x13 rfl)
          have c14 : wr.cell? ⟨b, off + k * 16 + 14, none⟩ = some x14 := (hbe.cell (p := ⟨b, off + k * 16 + 14, none⟩) hbl).trans (hcell 14 x14 rfl)
          have c15 : wr.cell? ⟨b, off + k * 16 + 15, none⟩ = some x15 := (hbe.cell (p := ⟨b, off + k * 16 + 15, none⟩) hbl).trans (hcell 15 x15 rfl)
          generalize hS : sumA (Df.bulk n) (ks.take k) = S at *
          have HC : Hid (Calls Try.prog 21 #[.agg #[x0, x1, x2, x3, x4, x5, x6, x7, x8, x9, x10, x11, x12, x13, x14, x15], .int .i64 (left - ks.length - (S : Nat))] wr fun e w' => e = .returned (.int .i64 (leftA (Df.bulk n ks[k]) (left - ks.length - (S : Nat)))) ∧ Below wr.heap.size wr w') := IH.out _ _ _ wr hty2 (by omega) (by omega)
          clear hS hty hty2 hcell hlen HEL IH
          generalize Df.bulk n ks[k] = bk at *
          by_cases hbk : ((S + bk : Nat) : Int) ≤ left - ks.length
          · have e1 : leftA bk (left - ks.length - (S : Nat)) = left - ks.length - ((S + bk : Nat) : Int) := by
              unfold leftA
              rw [if_pos (by omega)]
              omega
            rw [e1] at HC
            have hnn : ¬ left - (ks.length : Int) - ((S + bk : Nat) : Int) < 0 := by omega
            clear e1
            generalize hq : S + bk = Q at *
            have HQ : Hid (sumA (Df.bulk n) (ks.take (k + 1)) = Q) := HM.out.trans rfl
            clear hq HM HL
            go_wp2_with fail
            refine HC.out.mono ?_
            rintro e w2 ⟨rfl, hb2⟩
            have hbe2 : Below w.heap.size w w2 := hbe.trans (hb2.mono hbe.size)
            go_wp2_with fail
            go_roundw
            case rel => exact ⟨k + 1, by omega, by go_num, by rw [HQ.out], by rw [HQ.out]; exact hbk, hbe2⟩
            case measure => simp [intOf]; omega
          · have e1 : leftA bk (left - ks.length - (S : Nat)) = -1 := if_neg (by omega)
            rw [e1] at HC
            have HR : Hid (leftA (bulkA (Df.bulk n) ks) left = -1) := if_neg (by
              have h1 := HM.out
              have h2 := HL.out
              unfold bulkA
              omega)
            clear e1 HM HL
            go_wp2_with fail
            refine HC.out.mono ?_
            rintro e w2 ⟨rfl, hb2⟩
            have hbe2 : Below w.heap.size w w2 := hbe.trans (hb2.mono hbe.size)
            go_wp2_with fail
            go_ret
            exact ⟨by rw [HR.out]; rfl, hbe2⟩
      · have hke : k = ks.length := by omega
        subst hke
        rw [List.take_of_length_le (Nat.le_refl _)] at hle ⊢
        have HR : Hid (leftA (bulkA (Df.bulk n) ks) left = left - ks.length - (sumA (Df.bulk n) ks : Nat)) := by
          show _ = _
          unfold leftA bulkA
          rw [if_pos (by omega)]
          omega
        generalize sumA (Df.bulk n) ks = S at *
        clear HEL IH
        go_wp2_with fail
        go_ret
        exact ⟨by rw [HR.out]; rfl, hbe⟩
set_option maxHeartbeats 1600000 in
set_option maxRecDepth 100000 in
theorem szModC (vd vi : Value) (B1 B2 : Nat) (left : Int) (w : World)
    (C0 : ∀ X : World, Below w.heap.size w X → ∀ l : Int, 0 ≤ l → l ≤ 1048576 → Calls Try.prog 9 #[vi, .int .i64 l] X fun e w' => e = .returned (.int .i64 (leftA B1 l)) ∧ Below X.heap.size X w')
    (C1 : ∀ X : World, Below w.heap.size w X → ∀ l : Int, 0 ≤ l → l ≤ 1048576 → Calls Try.prog 10 #[vd, .int .i64 l] X fun e w' => e = .returned (.int .i64 (leftA B2 l)) ∧ Below X.heap.size X w')
    (h0 : 0 ≤ left) (h1 : left ≤ 1048576) :
    Calls Try.prog 4 #[.agg #[vi, vd], .int .i64 left] w fun e w' => e = .returned (.int .i64 (leftA (B1 + B2) left)) ∧ Below w.heap.size w w' := by
  have hB1 : Below w.heap.size w (w.alloc (.cells #[vi, vd] 25)) := (Below.refl _ _).alloc (Nat.le_refl _) _
  have HA : Hid (∀ X : World, Below (w.heap.size + 1) (w.alloc (.cells #[vi, vd] 25)) X → (X.cell? ⟨w.heap.size, 0, none⟩ = some (vi) ∧ X.cell? ⟨w.heap.size, 1, none⟩ = some (vd)) ∧ Below w.heap.size w X) := fun X hX => by
    have hr := (hX.block w.heap.size (by omega)).trans (MapKept.heap_alloc w (.cells #[vi, vd] 25)).1
    exact ⟨⟨by rw [cell_of_row _ _ 0 _ _ (0, 0) hr]; rfl, by rw [cell_of_row _ _ 1 _ _ (0, 0) hr]; rfl⟩, hB1.trans (hX.mono (by omega))⟩
  have D0 : Hid (type_of% C0) := C0
  have D1 : Hid (type_of% C1) := C1
  clear C0 C1
  by_cases d1 : (left - (B1 : Nat)) < 0
  · have e0 : leftA B1 (left) = -1 := if_neg (by omega)
    have HR : Hid (leftA (B1 + B2) left = -1) := if_neg (by omega)
    have F := D0.out (w.alloc (.cells #[vi, vd] 25)) hB1 (left) (by omega) (by omega)
    rw [e0] at F
    have E0 : Hid (type_of% F) := F
    clear F e0 d1 D0 D1
    go_enter Try.func4, Try.ntmps4
    go_wp2_with fail
    refine (E0.out).mono ?_
    rintro e w1 ⟨rfl, hb1⟩
    have G1 : Below (w.heap.size + 1) (w.alloc (.cells #[vi, vd] 25)) w1 := hb1.mono (by simp)
    have z1 : w.heap.size + 1 ≤ w1.heap.size := by have := G1.size; simpa using this
    obtain ⟨⟨y1_0, y1_1⟩, q1⟩ := HA.out _ G1
    clear E0
    go_wp2_with fail
    go_ret
    exact ⟨by rw [HR.out]; rfl, q1⟩
  · have n1 : ¬ (left - (B1 : Nat)) < 0 := d1
    have e0 : leftA B1 (left) = left - (B1 : Nat) := if_pos (by omega)
    have F0 := D0.out (w.alloc (.cells #[vi, vd] 25)) hB1 (left) (by omega) (by omega)
    rw [e0] at F0
    have E0 : Hid (type_of% F0) := F0
    clear F0 e0 D0
    by_cases d2 : (left - (B1 : Nat) - (B2 : Nat)) < 0
    · have e1 : leftA B2 (left - (B1 : Nat)) = -1 := if_neg (by omega)
      have HR : Hid (leftA (B1 + B2) left = -1) := if_neg (by omega)
      have F := fun X hX => D1.out X hX (left - (B1 : Nat)) (by omega) (by omega)
      simp only [e1] at F
      have E1 : Hid (type_of% F) := F
      clear F e1 d2 D1
      go_enter Try.func4, Try.ntmps4
      go_wp2_with fail
      refine (E0.out).mono ?_
      rintro e w1 ⟨rfl, hb1⟩
      have G1 : Below (w.heap.size + 1) (w.alloc (.cells #[vi, vd] 25)) w1 := hb1.mono (by simp)
      have z1 : w.heap.size + 1 ≤ w1.heap.size := by have := G1.size; simpa using this
      obtain ⟨⟨y1_0, y1_1⟩, q1⟩ := HA.out _ G1
      go_wp2_with fail
      refine (E1.out _ q1).mono ?_
      rintro e w2 ⟨rfl, hb2⟩
      have G2 := G1.trans (hb2.mono z1)
      have z2 : w.heap.size + 1 ≤ w2.heap.size := by have := G2.size; simpa using this
      obtain ⟨⟨y2_0, y2_1⟩, q2⟩ := HA.out _ G2
      clear E0 E1
      go_wp2_with fail
      go_ret
      exact ⟨by rw [HR.out]; rfl, q2⟩
    · have n2 : ¬ (left - (B1 : Nat) - (B2 : Nat)) < 0 := d2
      have e1 : leftA B2 (left - (B1 : Nat)) = left - (B1 : Nat) - (B2 : Nat) := if_pos (by omega)
      have F1 := fun X hX => D1.out X hX (left - (B1 : Nat)) (by omega) (by omega)
      simp only [e1] at F1
      have E1 : Hid (type_of% F1) := F1
      clear F1 e1 D1
      have HR : Hid (leftA (B1 + B2) left = left - (B1 : Nat) - (B2 : Nat)) := by
        show _ = _
        unfold leftA
        rw [if_pos (by omega)]
        omega
      go_enter Try.func4, Try.ntmps4
      go_wp2_with fail
      refine (E0.out).mono ?_
      rintro e w1 ⟨rfl, hb1⟩
      have G1 : Below (w.heap.size + 1) (w.alloc (.cells #[vi, vd] 25)) w1 := hb1.mono (by simp)
      have z1 : w.heap.size + 1 ≤ w1.heap.size := by have := G1.size; simpa using this
      obtain ⟨⟨y1_0, y1_1⟩, q1⟩ := HA.out _ G1
      go_wp2_with fail
      refine (E1.out _ q1).mono ?_
      rintro e w2 ⟨rfl, hb2⟩
      have G2 := G1.trans (hb2.mono z1)
      have z2 : w.heap.size + 1 ≤ w2.heap.size := by have := G2.size; simpa using this
      obtain ⟨⟨y2_0, y2_1⟩, q2⟩ := HA.out _ G2
      clear E0 E1
      go_wp2_with fail
      go_ret
      exact ⟨by rw [HR.out]; rfl, q2⟩

theorem lawsSzMd (n : Nat) (vi vd : Value) (im : List ByteArray) (ds : List Df) (left : Int) (w : World) (h : MdAt w n vi vd im ds) (h0 : 0 ≤ left) (h1 : left ≤ 1048576) :
    Calls Try.prog 4 #[.agg #[vi, vd], .int .i64 left] w fun e w' => e = .returned (.int .i64 (leftA (mdBulk n im ds) left)) ∧ Below w.heap.size w w' :=
  szModC vd vi _ _ left w (szTextsL vi im w h.im.1 h.im.2.1 h.im.2.2) (fun X hX l a b => lawsSzDfs n (lawsSzDf n) vd ds l X (h.ds.2.below hX fun _ _ _ h => h.below hX) h.ds.1 a b) h0 h1

end Go.Proofs.Ytegdladpkikicaa

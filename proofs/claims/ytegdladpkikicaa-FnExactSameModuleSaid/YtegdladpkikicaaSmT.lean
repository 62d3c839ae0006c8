/-
  The walks of spec.l04SameType and spec.l04SameExp.
-/
import Derived.Test.YtegdladpkikicaaSmS
namespace Go.Proofs.Ytegdladpkikicaa
open Go.RowKit

theorem cells4 {l : List Value} (h : l.length = 4) : ∃ x0 x1 x2 x3, l = [x0, x1, x2, x3] := by
  match l, h with
  | [x0, x1, x2, x3], _ => exact ⟨x0, x1, x2, x3, rfl⟩
set_option maxHeartbeats 3200000 in
set_option maxRecDepth 100000 in
open Classical in
theorem specSameTy (n : Nat) : ∀ (ca cb : List Value) (a b : Ty) (w : World), TyAt w n ca a → TyAt w n cb b → Ty.bulk n a ≤ 1048576 →
    Calls Try.prog 12 #[.agg ca.toArray, .agg cb.toArray] w fun e w' => e = .returned (.bool (decide (SameT TyHs Ty.kids a b))) ∧ Below w.heap.size w w' := by
  induction n with
  | zero => intro ca cb a b w h; exact h.elim
  | succ n ih =>
    intro ca cb a b w hA hB hbk
    obtain ⟨an, ak, rfl, _, _, ⟨hTa, hLa, _⟩, _, hra⟩ := hA
    obtain ⟨bn, bk, rfl, _, _, ⟨hTb, hLb, _⟩, _, hrb⟩ := hB
    rw [Ty.bulk, bulk_texts] at hbk
    have hB1 : Below w.heap.size w ((w.alloc (.cells #[.int .i64 a.kind, .string a.name, an, ak] 38)).alloc (.cells #[.int .i64 b.kind, .string b.name, bn, bk] 38)) := ((Below.refl _ _).alloc (Nat.le_refl _) _).alloc (by simp) _
    obtain ⟨aa, ac, rfl, hka⟩ := (show RowG 4 w (TyAt w n) ak a.kids from hra).open fun cs t h => by rw [h.len]; decide
    obtain ⟨ba, bc, rfl, hkb⟩ := (show RowG 4 w (TyAt w n) bk b.kids from hrb).open fun cs t h => by rw [h.len]; decide
    have HA : Hid (∀ X : World, Below (w.heap.size + 1 + 1) ((w.alloc (.cells #[.int .i64 a.kind, .string a.name, an, .slice aa a.kids.length ac] 38)).alloc (.cells #[.int .i64 b.kind, .string b.name, bn, .slice ba b.kids.length bc] 38)) X → (X.cell? ⟨w.heap.size, 0, none⟩ = some (.int .i64 a.kind) ∧ X.cell? ⟨w.heap.size, 1, none⟩ = some (.string a.name) ∧ X.cell? ⟨w.heap.size, 2, none⟩ = some (an) ∧ X.cell? ⟨w.heap.size, 3, none⟩ = some (.slice aa a.kids.length ac) ∧ X.cell? ⟨w.heap.size + 1, 0, none⟩ = some (.int .i64 b.kind) ∧ X.cell? ⟨w.heap.size + 1, 1, none⟩ = some (.string b.name) ∧ X.cell? ⟨w.heap.size + 1, 2, none⟩ = some (bn) ∧ X.cell? ⟨w.heap.size + 1, 3, none⟩ = some (.slice ba b.kids.length bc)) ∧ Below w.heap.size w X) := fun X hX => by
      have hr := (hX.block w.heap.size (by omega)).trans ((Below.heap_alloc _ _ _ (by simp)).trans (MapKept.heap_alloc w (.cells #[.int .i64 a.kind, .string a.name, an, .slice aa a.kids.length ac] 38)).1)
      have hs0 := (MapKept.heap_alloc (w.alloc (.cells #[.int .i64 a.kind, .string a.name, an, .slice aa a.kids.length ac] 38)) (.cells #[.int .i64 b.kind, .string b.name, bn, .slice ba b.kids.length bc] 38)).1
      rw [show (w.alloc (.cells #[.int .i64 a.kind, .string a.name, an, .slice aa a.kids.length ac] 38)).heap.size = w.heap.size + 1 from by simp] at hs0
      have hs := (hX.block (w.heap.size + 1) (by omega)).trans hs0
      exact ⟨⟨by rw [cell_of_row _ _ 0 _ _ (0, 0) hr]; rfl, by rw [cell_of_row _ _ 1 _ _ (0, 0) hr]; rfl, by rw [cell_of_row _ _ 2 _ _ (0, 0) hr]; rfl, by rw [cell_of_row _ _ 3 _ _ (0, 0) hr]; rfl, by rw [cell_of_row _ _ 0 _ _ (0, 0) hs]; rfl, by rw [cell_of_row _ _ 1 _ _ (0, 0) hs]; rfl, by rw [cell_of_row _ _ 2 _ _ (0, 0) hs]; rfl, by rw [cell_of_row _ _ 3 _ _ (0, 0) hs]; rfl⟩, hB1.trans (hX.mono (by omega))⟩
    have HT : Hid (∀ X : World, Below w.heap.size w X → Calls Try.prog 11 #[an, bn] X fun e w' => e = .returned (.bool (decide (a.names = b.names))) ∧ Below X.heap.size X w') := fun X hX => specSameTexts an bn a.names b.names X (hTa.below hX) (hTb.below hX) (by omega)
    have HKA : Hid (type_of% hka) := hka
    have HKB : Hid (type_of% hkb) := hkb
    have IH : Hid (type_of% ih) := ih
    have HBK : Hid (∀ k (h : k < a.kids.length), Ty.bulk n a.kids[k] ≤ 1048576) := fun k h => by
      have := bulkA_one (Ty.bulk n) a.kids k h
      unfold bulkA sumA at this
      omega
    have HN : Hid (¬ (TyHs a b ∧ a.kids.length = b.kids.length) → decide (SameT TyHs Ty.kids a b) = false) := fun h => decide_eq_false fun e => h ⟨(sameT_iff.1 e).1, (sameT_iff.1 e).2.1⟩
    have hkl : a.kids.length ≤ 1048576 := by omega
    have HT0 := HT.out _ hB1
    have HT1 : Hid (type_of% HT0) := HT0
    clear hTa hTb hra hrb hka hkb ih hbk hB1 HT HT0 hLa hLb
    by_cases c0 : a.kind = b.kind
    rotate_left
    · have x0 : (a.kind != b.kind) = true := by simpa using c0
      have HR := HN.out (fun h => c0 h.1.1)
      have HR' : Hid (type_of% HR) := HR
      clear HN HR HKA HKB IH HBK
      go_enter Try.func12, Try.ntmps12
      go_wp2_with fail
      go_ret
      exact ⟨by rw [HR'.out]; rfl, ((Below.refl _ _).alloc (Nat.le_refl _) _).alloc (by simp) _⟩
    have C0 : Hid (type_of% c0) := c0
    have x0 : (a.kind != b.kind) = false := by simpa using c0
    clear c0
    by_cases c1 : a.name = b.name
    rotate_left
    · have x1 := text_otherS c1
      have HR := HN.out (fun h => c1 h.1.2.1)
      have HR' : Hid (type_of% HR) := HR
      clear HN HR HKA HKB IH HBK
      go_enter Try.func12, Try.ntmps12
      go_wp2_with fail
      go_ret
      exact ⟨by rw [HR'.out]; rfl, ((Below.refl _ _).alloc (Nat.le_refl _) _).alloc (by simp) _⟩
    have C1 : Hid (type_of% c1) := c1
    have x1 : (a.name.toList == b.name.toList) = true := by rw [c1]; exact beq_self_eq_true _
    clear c1
    by_cases c2 : a.names = b.names
    rotate_left
    · have x2 : decide (a.names = b.names) = false := decide_eq_false c2
      rw [x2] at HT1
      have HR := HN.out (fun h => c2 h.1.2.2)
      have HR' : Hid (type_of% HR) := HR
      clear HN HR HKA HKB IH HBK
      go_enter Try.func12, Try.ntmps12
      go_wp2_with fail
      refine HT1.out.mono ?_
      rintro e w1 ⟨rfl, hb1⟩
      have G1 : Below (w.heap.size + 1 + 1) ((w.alloc (.cells #[.int .i64 a.kind, .string a.name, an, .slice aa a.kids.length ac] 38)).alloc (.cells #[.int .i64 b.kind, .string b.name, bn, .slice ba b.kids.length bc] 38)) w1 := hb1.mono (by simp)
      obtain ⟨⟨y0, y1, y2, y3, y4, y5, y6, y7⟩, q1⟩ := HA.out _ G1
      go_wp2_with fail
      go_ret
      exact ⟨by rw [HR'.out]; rfl, q1⟩
    have C2 : Hid (type_of% c2) := c2
    have x2 : decide (a.names = b.names) = true := decide_eq_true c2
    rw [x2] at HT1
    clear c2
    by_cases cl : a.kids.length = b.kids.length
    rotate_left
    · have cli : ¬ (a.kids.length : Int) = b.kids.length := by omega
      have HR := HN.out (fun h => cl h.2)
      have HR' : Hid (type_of% HR) := HR
      clear HN HR HKA HKB IH HBK
      go_enter Try.func12, Try.ntmps12
      go_wp2_with fail
      refine HT1.out.mono ?_
      rintro e w1 ⟨rfl, hb1⟩
      have G1 : Below (w.heap.size + 1 + 1) ((w.alloc (.cells #[.int .i64 a.kind, .string a.name, an, .slice aa a.kids.length ac] 38)).alloc (.cells #[.int .i64 b.kind, .string b.name, bn, .slice ba b.kids.length bc] 38)) w1 := hb1.mono (by simp)
      obtain ⟨⟨y0, y1, y2, y3, y4, y5, y6, y7⟩, q1⟩ := HA.out _ G1
      go_wp2_with fail
      go_ret
      exact ⟨by rw [HR'.out]; rfl, q1⟩
    have HS : Hid ((∀ j (h : j < a.kids.length) (h' : j < b.kids.length), SameT TyHs Ty.kids a.kids[j] b.kids[j]) → decide (SameT TyHs Ty.kids a b) = true) := fun h => decide_eq_true (sameT_iff.2 ⟨⟨C0.out, C1.out, C2.out⟩, cl, h⟩)
    have HS2 : Hid (∀ j (h : j < a.kids.length) (h' : j < b.kids.length), ¬ SameT TyHs Ty.kids a.kids[j] b.kids[j] → decide (SameT TyHs Ty.kids a b) = false) := fun j h h' hn => decide_eq_false fun e => hn ((sameT_iff.1 e).2.2 j h h')
    have CL : Hid (type_of% cl) := cl
    have cli : ((a.kids.length : Int) == (b.kids.length : Int)) = true := by rw [beq_iff_eq]; omega
    have clj : ((a.kids.length : Int) != (b.kids.length : Int)) = false := by rw [bne_eq_false_iff_eq]; omega
    clear HN cl
    go_enter Try.func12, Try.ntmps12
    go_wp2_with fail
    refine HT1.out.mono ?_
    rintro e w1 ⟨rfl, hb1⟩
    have G1 : Below (w.heap.size + 1 + 1) ((w.alloc (.cells #[.int .i64 a.kind, .string a.name, an, .slice aa a.kids.length ac] 38)).alloc (.cells #[.int .i64 b.kind, .string b.name, bn, .slice ba b.kids.length bc] 38)) w1 := hb1.mono (by simp)
    obtain ⟨⟨y0, y1, y2, y3, y4, y5, y6, y7⟩, q1⟩ := HA.out _ G1
    have g1 : w.heap.size + 1 + 1 ≤ w1.heap.size := by have := G1.size; simpa using this
    clear hb1 HT1
    go_wp2_with fail
    go_loopw [5] (fun i wr => ∃ k : Nat, k ≤ a.kids.length ∧ i = .int .i64 k ∧ (∀ j (h : j < a.kids.length) (h' : j < b.kids.length), j < k → SameT TyHs Ty.kids a.kids[j] b.kids[j]) ∧ Below (w.heap.size + 1 + 1) ((w.alloc (.cells #[.int .i64 a.kind, .string a.name, an, .slice aa a.kids.length ac] 38)).alloc (.cells #[.int .i64 b.kind, .string b.name, bn, .slice ba b.kids.length bc] 38)) wr ∧ w.heap.size + 1 + 1 ≤ wr.heap.size) (fun i _ => a.kids.length - (intOf i).toNat)
    case atStart => exact ⟨0, Nat.zero_le _, rfl, fun j _ _ h => absurd h (by omega), G1, g1⟩
    case round =>
      obtain ⟨k, hk, rfl, heq, hbe, hz⟩ := hrel
      clear y0 y1 y2 y3 y4 y5 y6 y7 q1 G1 g1
      obtain ⟨⟨y0, y1, y2, y3, y4, y5, y6, y7⟩, q1⟩ := HA.out _ hbe
      by_cases hlt : k < a.kids.length
      · have hlt2 : k < b.kids.length := by rw [← CL.out]; exact hlt
        obtain ⟨b1, o1, l1, rfl, hb1, ht1, p1⟩ := HKA.out k hlt
        obtain ⟨b2, o2, l2, rfl, hb2, ht2, p2⟩ := HKB.out k hlt2
        have HC : Hid (∀ X : World, Below w.heap.size w X → Calls Try.prog 12 #[.agg l1.toArray, .agg l2.toArray] X fun e w' => e = .returned (.bool (decide (SameT TyHs Ty.kids a.kids[k] b.kids[k]))) ∧ Below X.heap.size X w') := fun X hX => IH.out l1 l2 _ _ X (ht1.below hX) (ht2.below hX) (HBK.out k hlt)
        obtain ⟨x0', x1', x2', x3', rfl⟩ := cells4 ht1.len
        obtain ⟨z0', z1', z2', z3', rfl⟩ := cells4 ht2.len
        have A0 : wr.cell? ⟨b1, o1 + k * 4, none⟩ = some x0' := (q1.cell (p := ⟨b1, o1 + k * 4 + 0, none⟩) hb1).trans (p1 0 _ rfl)
        have B0 : wr.cell? ⟨b2, o2 + k * 4, none⟩ = some z0' := (q1.cell (p := ⟨b2, o2 + k * 4 + 0, none⟩) hb2).trans (p2 0 _ rfl)
        have A1 : wr.cell? ⟨b1, o1 + k * 4 + 1, none⟩ = some x1' := (q1.cell (p := ⟨b1, o1 + k * 4 + 1, none⟩) hb1).trans (p1 1 _ rfl)
        have B1 : wr.cell? ⟨b2, o2 + k * 4 + 1, none⟩ = some z1' := (q1.cell (p := ⟨b2, o2 + k * 4 + 1, none⟩) hb2).trans (p2 1 _ rfl)
        have A2 : wr.cell? ⟨b1, o1 + k * 4 + 2, none⟩ = some x2' := (q1.cell (p := ⟨b1, o1 + k * 4 + 2, none⟩) hb1).trans (p1 2 _ rfl)
        have B2 : wr.cell? ⟨b2, o2 + k * 4 + 2, none⟩ = some z2' := (q1.cell (p := ⟨b2, o2 + k * 4 + 2, none⟩) hb2).trans (p2 2 _ rfl)
        have A3 : wr.cell? ⟨b1, o1 + k * 4 + 3, none⟩ = some x3' := (q1.cell (p := ⟨b1, o1 + k * 4 + 3, none⟩) hb1).trans (p1 3 _ rfl)
        have B3 : wr.cell? ⟨b2, o2 + k * 4 + 3, none⟩ = some z3' := (q1.cell (p := ⟨b2, o2 + k * 4 + 3, none⟩) hb2).trans (p2 3 _ rfl)
        have HE : Hid (SameT TyHs Ty.kids a.kids[k] b.kids[k] → ∀ j (h : j < a.kids.length) (h' : j < b.kids.length), j < k + 1 → SameT TyHs Ty.kids a.kids[j] b.kids[j]) := fun e j h h' hj => by
          by_cases c : j < k
          · exact heq j h h' c
          · obtain rfl : j = k := by omega
            exact e
        have HF := HS2.out k hlt hlt2
        have HF' : Hid (type_of% HF) := HF
        have hk0 : (0 : Int) ≤ k := by omega
        have hk1 : (k : Int) < a.kids.length := by omega
        have hk2 : (k : Int) < b.kids.length := by omega
        clear heq p1 p2 ht1 ht2 HKA HKB IH HBK HS HS2 HF
        generalize a.kids[k] = ea at *
        generalize b.kids[k] = eb at *
        by_cases he : SameT TyHs Ty.kids ea eb
        · have x9 : decide (SameT TyHs Ty.kids ea eb) = true := decide_eq_true he
          rw [x9] at HC
          have HE2 : Hid (type_of% (HE.out he)) := HE.out he
          clear HE HF' he
          go_wp2_with fail
          go_region_with (go_at_call 12; refine (HC.out _ q1.drew).mono ?_; rintro e w2 ⟨rfl, hb2⟩)
          all_goals
            go_wp2_with fail
            go_roundw
            case rel => exact ⟨k + 1, by omega, by go_num, HE2.out, hbe.drew.trans (hb2.mono hz), Nat.le_trans hz hb2.size⟩
            case measure => simp [intOf]; omega
        · have x9 : decide (SameT TyHs Ty.kids ea eb) = false := decide_eq_false he
          rw [x9] at HC
          have HR : Hid (type_of% (HF'.out he)) := HF'.out he
          clear HE HF' he
          go_wp2_with fail
          go_region_with (go_at_call 12; refine (HC.out _ q1.drew).mono ?_; rintro e w2 ⟨rfl, hb2⟩)
          all_goals
            go_wp2_with fail
            go_ret
            exact ⟨by rw [HR.out]; rfl, q1.drew.trans (hb2.mono q1.size)⟩
      · have HR : Hid (type_of% (HS.out fun j h h' => heq j h h' (by omega))) := HS.out fun j h h' => heq j h h' (by omega)
        clear HKA HKB IH HBK HS HS2 heq
        go_wp2_with fail
        go_ret
        exact ⟨by rw [HR.out]; rfl, q1⟩
set_option maxHeartbeats 3200000 in
set_option maxRecDepth 100000 in
open Classical in
theorem specSameXp (n : Nat) : ∀ (ca cb : List Value) (a b : Xp) (w : World), XpAt w n ca a → XpAt w n cb b → Xp.bulk n a ≤ 1048576 →
    Calls Try.prog 13 #[.agg ca.toArray, .agg cb.toArray] w fun e w' => e = .returned (.bool (decide (SameT XpHs Xp.kids a b))) ∧ Below w.heap.size w w' := by
  induction n with
  | zero => intro ca cb a b w h; exact h.elim
  | succ n ih =>
    intro ca cb a b w hA hB hbk
    obtain ⟨an, ak, rfl, _, ⟨hTa, hLa, _⟩, _, hra⟩ := hA
    obtain ⟨bn, bk, rfl, _, ⟨hTb, hLb, _⟩, _, hrb⟩ := hB
    rw [Xp.bulk] at hbk
    have hB1 : Below w.heap.size w ((w.alloc (.cells #[.int .i64 a.kind, .string a.text, .int .i64 a.n, .int .i64 a.line, an, ak] 41)).alloc (.cells #[.int .i64 b.kind, .string b.text, .int .i64 b.n, .int .i64 b.line, bn, bk] 41)) := ((Below.refl _ _).alloc (Nat.le_refl _) _).alloc (by simp) _
    obtain ⟨aa, ac, rfl, hka⟩ := (show RowG 6 w (XpAt w n) ak a.kids from hra).open fun cs t h => by rw [h.len]; decide
    obtain ⟨ba, bc, rfl, hkb⟩ := (show RowG 6 w (XpAt w n) bk b.kids from hrb).open fun cs t h => by rw [h.len]; decide
    have HA : Hid (∀ X : World, Below (w.heap.size + 1 + 1) ((w.alloc (.cells #[.int .i64 a.kind, .string a.text, .int .i64 a.n, .int .i64 a.line, an, .slice aa a.kids.length ac] 41)).alloc (.cells #[.int .i64 b.kind, .string b.text, .int .i64 b.n, .int .i64 b.line, bn, .slice ba b.kids.length bc] 41)) X → (X.cell? ⟨w.heap.size, 0, none⟩ = some (.int .i64 a.kind) ∧ X.cell? ⟨w.heap.size, 1, none⟩ = some (.string a.text) ∧ X.cell? ⟨w.heap.size, 2, none⟩ = some (.int .i64 a.n) ∧ X.cell? ⟨w.heap.size, 3, none⟩ = some (.int .i64 a.line) ∧ X.cell? ⟨w.heap.size, 4, none⟩ = some (an) ∧ X.cell? ⟨w.heap.size, 5, none⟩ = some (.slice aa a.kids.length ac) ∧ X.cell? ⟨w.heap.size + 1, 0, none⟩ = some (.int .i64 b.kind) ∧ X.cell? ⟨w.heap.size + 1, 1, none⟩ = some (.string b.text) ∧ X.cell? ⟨w.heap.size + 1, 2, none⟩ = some (.int .i64 b.n) ∧ X.cell? ⟨w.heap.size + 1, 3, none⟩ = some (.int .i64 b.line) ∧ X.cell? ⟨w.heap.size + 1, 4, none⟩ = some (bn) ∧ X.cell? ⟨w.heap.size + 1, 5, none⟩ = some (.slice ba b.kids.length bc)) ∧ Below w.heap.size w X) := fun X hX => by
      have hr := (hX.block w.heap.size (by omega)).trans ((Below.heap_alloc _ _ _ (by simp)).trans (MapKept.heap_alloc w (.cells #[.int .i64 a.kind, .string a.text, .int .i64 a.n, .int .i64 a.line, an, .slice aa a.kids.length ac] 41)).1)
      have hs0 := (MapKept.heap_alloc (w.alloc (.cells #[.int .i64 a.kind, .string a.text, .int .i64 a.n, .int .i64 a.line, an, .slice aa a.kids.length ac] 41)) (.cells #[.int .i64 b.kind, .string b.text, .int .i64 b.n, .int .i64 b.line, bn, .slice ba b.kids.length bc] 41)).1
      rw [show (w.alloc (.cells #[.int .i64 a.kind, .string a.text, .int .i64 a.n, .int .i64 a.line, an, .slice aa a.kids.length ac] 41)).heap.size = w.heap.size + 1 from by simp] at hs0
      have hs := (hX.block (w.heap.size + 1) (by omega)).trans hs0
      exact ⟨⟨by rw [cell_of_row _ _ 0 _ _ (0, 0) hr]; rfl, by rw [cell_of_row _ _ 1 _ _ (0, 0) hr]; rfl, by rw [cell_of_row _ _ 2 _ _ (0, 0) hr]; rfl, by rw [cell_of_row _ _ 3 _ _ (0, 0) hr]; rfl, by rw [cell_of_row _ _ 4 _ _ (0, 0) hr]; rfl, by rw [cell_of_row _ _ 5 _ _ (0, 0) hr]; rfl, by rw [cell_of_row _ _ 0 _ _ (0, 0) hs]; rfl, by rw [cell_of_row _ _ 1 _ _ (0, 0) hs]; rfl, by rw [cell_of_row _ _ 2 _ _ (0, 0) hs]; rfl, by rw [cell_of_row _ _ 3 _ _ (0, 0) hs]; rfl, by rw [cell_of_row _ _ 4 _ _ (0, 0) hs]; rfl, by rw [cell_of_row _ _ 5 _ _ (0, 0) hs]; rfl⟩, hB1.trans (hX.mono (by omega))⟩
    have HT : Hid (∀ X : World, Below w.heap.size w X → Calls Try.prog 11 #[an, bn] X fun e w' => e = .returned (.bool (decide (a.names = b.names))) ∧ Below X.heap.size X w') := fun X hX => specSameTexts an bn a.names b.names X (hTa.below hX) (hTb.below hX) (by omega)
    have HKA : Hid (type_of% hka) := hka
    have HKB : Hid (type_of% hkb) := hkb
    have IH : Hid (type_of% ih) := ih
    have HBK : Hid (∀ k (h : k < a.kids.length), Xp.bulk n a.kids[k] ≤ 1048576) := fun k h => by
      have := bulkA_one (Xp.bulk n) a.kids k h
      unfold bulkA sumA at this
      omega
    have HN : Hid (¬ (XpHs a b ∧ a.kids.length = b.kids.length) → decide (SameT XpHs Xp.kids a b) = false) := fun h => decide_eq_false fun e => h ⟨(sameT_iff.1 e).1, (sameT_iff.1 e).2.1⟩
    have hkl : a.kids.length ≤ 1048576 := by omega
    have HT0 := HT.out _ hB1
    have HT1 : Hid (type_of% HT0) := HT0
    clear hTa hTb hra hrb hka hkb ih hbk hB1 HT HT0 hLa hLb
    by_cases c0 : a.kind = b.kind
    rotate_left
    · have x0 : (a.kind != b.kind) = true := by simpa using c0
      have HR := HN.out (fun h => c0 h.1.1)
      have HR' : Hid (type_of% HR) := HR
      clear HN HR HKA HKB IH HBK
      go_enter Try.func13, Try.ntmps13
      go_wp2_with fail
      go_ret
      exact ⟨by rw [HR'.out]; rfl, ((Below.refl _ _).alloc (Nat.le_refl _) _).alloc (by simp) _⟩
    have C0 : Hid (type_of% c0) := c0
    have x0 : (a.kind != b.kind) = false := by simpa using c0
    clear c0
    by_cases c1 : a.text = b.text
    rotate_left
    · have x1 := text_otherS c1
      have HR := HN.out (fun h => c1 h.1.2.1)
      have HR' : Hid (type_of% HR) := HR
      clear HN HR HKA HKB IH HBK
      go_enter Try.func13, Try.ntmps13
      go_wp2_with fail
      go_ret
      exact ⟨by rw [HR'.out]; rfl, ((Below.refl _ _).alloc (Nat.le_refl _) _).alloc (by simp) _⟩
    have C1 : Hid (type_of% c1) := c1
    have x1 : (a.text.toList == b.text.toList) = true := by rw [c1]; exact beq_self_eq_true _
    clear c1
    by_cases c2 : a.n = b.n
    rotate_left
    · have x2 : (a.n != b.n) = true := by simpa using c2
      have HR := HN.out (fun h => c2 h.1.2.2.1)
      have HR' : Hid (type_of% HR) := HR
      clear HN HR HKA HKB IH HBK
      go_enter Try.func13, Try.ntmps13
      go_wp2_with fail
      go_ret
      exact ⟨by rw [HR'.out]; rfl, ((Below.refl _ _).alloc (Nat.le_refl _) _).alloc (by simp) _⟩
    have C2 : Hid (type_of% c2) := c2
    have x2 : (a.n != b.n) = false := by simpa using c2
    clear c2
    by_cases c3 : a.names = b.names
    rotate_left
    · have x3 : decide (a.names = b.names) = false := decide_eq_false c3
      rw [x3] at HT1
      have HR := HN.out (fun h => c3 h.1.2.2.2)
      have HR' : Hid (type_of% HR) := HR
      clear HN HR HKA HKB IH HBK
      go_enter Try.func13, Try.ntmps13
      go_wp2_with fail
      refine HT1.out.mono ?_
      rintro e w1 ⟨rfl, hb1⟩
      have G1 : Below (w.heap.size + 1 + 1) ((w.alloc (.cells #[.int .i64 a.kind, .string a.text, .int .i64 a.n, .int .i64 a.line, an, .slice aa a.kids.length ac] 41)).alloc (.cells #[.int .i64 b.kind, .string b.text, .int .i64 b.n, .int .i64 b.line, bn, .slice ba b.kids.length bc] 41)) w1 := hb1.mono (by simp)
      obtain ⟨⟨y0, y1, y2, y3, y4, y5, y6, y7, y8, y9, y10, y11⟩, q1⟩ := HA.out _ G1
      go_wp2_with fail
      go_ret
      exact ⟨by rw [HR'.out]; rfl, q1⟩
    have C3 : Hid (type_of% c3) := c3
    have x3 : decide (a.names = b.names) = true := decide_eq_true c3
    rw [x3] at HT1
    clear c3
    by_cases cl : a.kids.length = b.kids.length
    rotate_left
    · have cli : ¬ (a.kids.length : Int) = b.kids.length := by omega
      have HR := HN.out (fun h => cl h.2)
      have HR' : Hid (type_of% HR) := HR
      clear HN HR HKA HKB IH HBK
      go_enter Try.func13, Try.ntmps13
      go_wp2_with fail
      refine HT1.out.mono ?_
      rintro e w1 ⟨rfl, hb1⟩
      have G1 : Below (w.heap.size + 1 + 1) ((w.alloc (.cells #[.int .i64 a.kind, .string a.text, .int .i64 a.n, .int .i64 a.line, an, .slice aa a.kids.length ac] 41)).alloc (.cells #[.int .i64 b.kind, .string b.text, .int .i64 b.n, .int .i64 b.line, bn, .slice ba b.kids.length bc] 41)) w1 := hb1.mono (by simp)
      obtain ⟨⟨y0, y1, y2, y3, y4, y5, y6, y7, y8, y9, y10, y11⟩, q1⟩ := HA.out _ G1
      go_wp2_with fail
      go_ret
      exact ⟨by rw [HR'.out]; rfl, q1⟩
    have HS : Hid ((∀ j (h : j < a.kids.length) (h' : j < b.kids.length), SameT XpHs Xp.kids a.kids[j] b.kids[j]) → decide (SameT XpHs Xp.kids a b) = true) := fun h => decide_eq_true (sameT_iff.2 ⟨⟨C0.out, C1.out, C2.out, C3.out⟩, cl, h⟩)
    have HS2 : Hid (∀ j (h : j < a.kids.length) (h' : j < b.kids.length), ¬ SameT XpHs Xp.kids a.kids[j] b.kids[j] → decide (SameT XpHs Xp.kids a b) = false) := fun j h h' hn => decide_eq_false fun e => hn ((sameT_iff.1 e).2.2 j h h')
    have CL : Hid (type_of% cl) := cl
    have cli : ((a.kids.length : Int) == (b.kids.length : Int)) = true := by rw [beq_iff_eq]; omega
    have clj : ((a.kids.length : Int) != (b.kids.length : Int)) = false := by rw [bne_eq_false_iff_eq]; omega
    clear HN cl
    go_enter Try.func13, Try.ntmps13
    go_wp2_with fail
    refine HT1.out.mono ?_
    rintro e w1 ⟨rfl, hb1⟩
    have G1 : Below (w.heap.size + 1 + 1) ((w.alloc (.cells #[.int .i64 a.kind, .string a.text, .int .i64 a.n, .int .i64 a.line, an, .slice aa a.kids.length ac] 41)).alloc (.cells #[.int .i64 b.kind, .string b.text, .int .i64 b.n, .int .i64 b.line, bn, .slice ba b.kids.length bc] 41)) w1 := hb1.mono (by simp)
    obtain ⟨⟨y0, y1, y2, y3, y4, y5, y6, y7, y8, y9, y10, y11⟩, q1⟩ := HA.out _ G1
    have g1 : w.heap.size + 1 + 1 ≤ w1.heap.size := by have := G1.size; simpa using this
    clear hb1 HT1
    go_wp2_with fail
    go_loopw [5] (fun i wr => ∃ k : Nat, k ≤ a.kids.length ∧ i = .int .i64 k ∧ (∀ j (h : j < a.kids.length) (h' : j < b.kids.length), j < k → SameT XpHs Xp.kids a.kids[j] b.kids[j]) ∧ Below (w.heap.size + 1 + 1) ((w.alloc (.cells #[.int .i64 a.kind, .string a.text, .int .i64 a.n, .int .i64 a.line, an, .slice aa a.kids.length ac] 41)).alloc (.cells #[.int .i64 b.kind, .string b.text, .int .i64 b.n, .int .i64 b.line, bn, .slice ba b.kids.length bc] 41)) wr ∧ w.heap.size + 1 + 1 ≤ wr.heap.size) (fun i _ => a.kids.length - (intOf i).toNat)
    case atStart => exact ⟨0, Nat.zero_le _, rfl, fun j _ _ h => absurd h (by omega), G1, g1⟩
    case round =>
      obtain ⟨k, hk, rfl, heq, hbe, hz⟩ := hrel
      clear y0 y1 y2 y3 y4 y5 y6 y7 y8 y9 y10 y11 q1 G1 g1
      obtain ⟨⟨y0, y1, y2, y3, y4, y5, y6, y7, y8, y9, y10, y11⟩, q1⟩ := HA.out _ hbe
      by_cases hlt : k < a.kids.length
      · have hlt2 : k < b.kids.length := by rw [← CL.out]; exact hlt
        obtain ⟨b1, o1, l1, rfl, hb1, ht1, p1⟩ := HKA.out k hlt
        obtain ⟨b2, o2, l2, rfl, hb2, ht2, p2⟩ := HKB.out k hlt2
        have HC : Hid (∀ X : World, Below w.heap.size w X → Calls Try.prog 13 #[.agg l1.toArray, .agg l2.toArray] X fun e w' => e = .returned (.bool (decide (SameT XpHs Xp.kids a.kids[k] b.kids[k]))) ∧ Below X.heap.size X w') := fun X hX => IH.out l1 l2 _ _ X (ht1.below hX) (ht2.below hX) (HBK.out k hlt)
        obtain ⟨x0', x1', x2', x3', x4', x5', rfl⟩ := cells6 ht1.len
        obtain ⟨z0', z1', z2', z3', z4', z5', rfl⟩ := cells6 ht2.len
        have A0 : wr.cell? ⟨b1, o1 + k * 6, none⟩ = some x0' := (q1.cell (p := ⟨b1, o1 + k * 6 + 0, none⟩) hb1).trans (p1 0 _ rfl)
        have B0 : wr.cell? ⟨b2, o2 + k * 6, none⟩ = some z0' := (q1.cell (p := ⟨b2, o2 + k * 6 + 0, none⟩) hb2).trans (p2 0 _ rfl)
        have A1 : wr.cell? ⟨b1, o1 + k * 6 + 1, none⟩ = some x1' := (q1.cell (p := ⟨b1, o1 + k * 6 + 1, none⟩) hb1).trans (p1 1 _ rfl)
        have B1 : wr.cell? ⟨b2, o2 + k * 6 + 1, none⟩ = some z1' := (q1.cell (p := ⟨b2, o2 + k * 6 + 1, none⟩) hb2).trans (p2 1 _ rfl)
        have A2 : wr.cell? ⟨b1, o1 + k * 6 + 2, none⟩ = some x2' := (q1.cell (p := ⟨b1, o1 + k * 6 + 2, none⟩) hb1).trans (p1 2 _ rfl)
        have B2 : wr.cell? ⟨b2, o2 + k * 6 + 2, none⟩ = some z2' := (q1.cell (p := ⟨b2, o2 + k * 6 + 2, none⟩) hb2).trans (p2 2 _ rfl)
        have A3 : wr.cell? ⟨b1, o1 + k * 6 + 3, none⟩ = some x3' := (q1.cell (p := ⟨b1, o1 + k * 6 + 3, none⟩) hb1).trans (p1 3 _ rfl)
        have B3 : wr.cell? ⟨b2, o2 + k * 6 + 3, none⟩ = some z3' := (q1.cell (p := ⟨b2, o2 + k * 6 + 3, none⟩) hb2).trans (p2 3 _ rfl)
        have A4 : wr.cell? ⟨b1, o1 + k * 6 + 4, none⟩ = some x4' := (q1.cell (p := ⟨b1, o1 + k * 6 + 4, none⟩) hb1).trans (p1 4 _ rfl)
        have B4 : wr.cell? ⟨b2, o2 + k * 6 + 4, none⟩ = some z4' := (q1.cell (p := ⟨b2, o2 + k * 6 + 4, none⟩) hb2).trans (p2 4 _ rfl)
        have A5 : wr.cell? ⟨b1, o1 + k * 6 + 5, none⟩ = some x5' := (q1.cell (p := ⟨b1, o1 + k * 6 + 5, none⟩) hb1).trans (p1 5 _ rfl)
        have B5 : wr.cell? ⟨b2, o2 + k * 6 + 5, none⟩ = some z5' := (q1.cell (p := ⟨b2, o2 + k * 6 + 5, none⟩) hb2).trans (p2 5 _ rfl)
        have HE : Hid (SameT XpHs Xp.kids a.kids[k] b.kids[k] → ∀ j (h : j < a.kids.length) (h' : j < b.kids.length), j < k + 1 → SameT XpHs Xp.kids a.kids[j] b.kids[j]) := fun e j h h' hj => by
          by_cases c : j < k
          · exact heq j h h' c
          · obtain rfl : j = k := by omega
            exact e
        have HF := HS2.out k hlt hlt2
        have HF' : Hid (type_of% HF) := HF
        have hk0 : (0 : Int) ≤ k := by omega
        have hk1 : (k : Int) < a.kids.length := by omega
        have hk2 : (k : Int) < b.kids.length := by omega
        clear heq p1 p2 ht1 ht2 HKA HKB IH HBK HS HS2 HF
        generalize a.kids[k] = ea at *
        generalize b.kids[k] = eb at *
        by_cases he : SameT XpHs Xp.kids ea eb
        · have x9 : decide (SameT XpHs Xp.kids ea eb) = true := decide_eq_true he
          rw [x9] at HC
          have HE2 : Hid (type_of% (HE.out he)) := HE.out he
          clear HE HF' he
          go_wp2_with fail
          go_region_with (go_at_call 13; refine (HC.out _ q1.drew).mono ?_; rintro e w2 ⟨rfl, hb2⟩)
          all_goals
            go_wp2_with fail
            go_roundw
            case rel => exact ⟨k + 1, by omega, by go_num, HE2.out, hbe.drew.trans (hb2.mono hz), Nat.le_trans hz hb2.size⟩
            case measure => simp [intOf]; omega
        · have x9 : decide (SameT XpHs Xp.kids ea eb) = false := decide_eq_false he
          rw [x9] at HC
          have HR : Hid (type_of% (HF'.out he)) := HF'.out he
          clear HE HF' he
          go_wp2_with fail
          go_region_with (go_at_call 13; refine (HC.out _ q1.drew).mono ?_; rintro e w2 ⟨rfl, hb2⟩)
          all_goals
            go_wp2_with fail
            go_ret
            exact ⟨by rw [HR.out]; rfl, q1.drew.trans (hb2.mono q1.size)⟩
      · have HR : Hid (type_of% (HS.out fun j h h' => heq j h h' (by omega))) := HS.out fun j h h' => heq j h h' (by omega)
        clear HKA HKB IH HBK HS HS2 heq
        go_wp2_with fail
        go_ret
        exact ⟨by rw [HR.out]; rfl, q1⟩

end Go.Proofs.Ytegdladpkikicaa

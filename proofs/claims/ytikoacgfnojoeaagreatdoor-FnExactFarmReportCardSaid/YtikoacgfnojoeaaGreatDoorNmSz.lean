/-
  The walks of the laws' own helpers szNamed and szNamedS.
-/
import Derived.Test.YtikoacgfnojoeaaGreatDoorNmD
namespace Go.Proofs.YtikoacgfnojoeaaGreatDoor
open Go.RowKit

set_option maxHeartbeats 800000 in
set_option maxRecDepth 100000 in
theorem lawsSzNm (n : Nat) (nm : ByteArray) (x0 x1 x2 x3 : Value) (t : Ty) (left : Int) (w : World) (hs : nm.size ≤ maxLen) (h : TyAt w n [x0, x1, x2, x3] t) (h0 : 0 ≤ left) (h1 : left ≤ 1048576) :
    Calls Tryz.prog 77 #[.agg #[.string nm, x0, x1, x2, x3], .int .i64 left] w fun e w' => e = .returned (.int .i64 (leftOf (nm.size + Ty.bulk n t) left)) ∧ Below w.heap.size w w' := by
  have hB1 : Below w.heap.size w (w.alloc (.cells #[.string nm, x0, x1, x2, x3] 174)) := (Below.refl _ _).alloc (Nat.le_refl _) _
  have HT : Hid (∀ l : Int, 0 ≤ l → l ≤ 1048576 → Calls Tryz.prog 83 #[.agg #[x0, x1, x2, x3], .int .i64 l] (w.alloc (.cells #[.string nm, x0, x1, x2, x3] 174)) fun e w' => e = .returned (.int .i64 (leftOf (Ty.bulk n t) l)) ∧ Below (w.alloc (.cells #[.string nm, x0, x1, x2, x3] 174)).heap.size (w.alloc (.cells #[.string nm, x0, x1, x2, x3] 174)) w') := fun l a b => lawsSzTy n _ t l _ (h.below hB1) a b
  unfold maxLen at hs
  clear h
  generalize Ty.bulk n t = B at *
  by_cases d1 : left - (nm.size : Int) < 0
  · have HR : Hid (leftOf (nm.size + B) left = -1) := if_neg (by omega)
    clear HT
    go_enter Tryz.func77, Tryz.ntmps77
    go_wp2_with fail
    go_ret
    exact ⟨by rw [HR.out]; rfl, hB1⟩
  · have HT3 := HT.out (left - nm.size) (by omega) (by omega)
    by_cases d2 : ((nm.size + B : Nat) : Int) ≤ left
    · have e2 : leftOf B (left - nm.size) = left - nm.size - B := if_pos (by omega)
      rw [e2] at HT3
      have HT4 : Hid (type_of% HT3) := HT3
      have HR : Hid (leftOf (nm.size + B) left = left - nm.size - B) := by
        show _ = _
        unfold leftOf
        rw [if_pos d2]
        omega
      have d2n : ¬ left - (nm.size : Int) - B < 0 := by omega
      clear HT3 HT e2 d2
      go_enter Tryz.func77, Tryz.ntmps77
      go_wp2_with fail
      refine HT4.out.mono ?_
      rintro e w2 ⟨rfl, hb2⟩
      go_wp2_with fail
      go_ret
      exact ⟨by rw [HR.out]; rfl, hB1.trans (hb2.mono (by simp))⟩
    · have e2 : leftOf B (left - nm.size) = -1 := if_neg (by omega)
      rw [e2] at HT3
      have HT4 : Hid (type_of% HT3) := HT3
      have HR : Hid (leftOf (nm.size + B) left = -1) := if_neg d2
      clear HT3 HT e2 d2
      go_enter Tryz.func77, Tryz.ntmps77
      go_wp2_with fail
      refine HT4.out.mono ?_
      rintro e w2 ⟨rfl, hb2⟩
      go_wp2_with fail
      go_ret
      exact ⟨by rw [HR.out]; rfl, hB1.trans (hb2.mono (by simp))⟩

set_option maxHeartbeats 800000 in
set_option maxRecDepth 100000 in
theorem lawsSzEnv (n : Nat) (v : Value) (es : List (ByteArray × Ty)) (left : Int) (w : World) (hrow : EnvAt w n v es) (hkl : es.length ≤ maxLen) (h0 : 0 ≤ left) (h1 : left ≤ 1048576) :
    Calls Tryz.prog 69 #[v, .int .i64 left] w fun e w' => e = .returned (.int .i64 (leftOf (envBulk n es) left)) ∧ Below w.heap.size w w' := by
  unfold maxLen at hkl
  obtain ⟨av, capv, rfl, hel⟩ := envOpen hrow
  have HEL : Hid (type_of% hel) := hel
  clear hrow hel
  by_cases hneg : left - (es.length : Int) < 0
  · have HR : Hid (leftOf (envBulk n es) left = -1) := if_neg (by unfold envBulk; omega)
    clear HEL
    go_enter Tryz.func69, Tryz.ntmps69
    go_wp2_with fail
    go_ret
    exact ⟨by rw [HR.out]; rfl, Below.refl _ _⟩
  · go_enter Tryz.func69, Tryz.ntmps69
    go_wp2_with fail
    go_loopw [1, 5] (fun l i wr => ∃ k : Nat, k ≤ es.length ∧ i = .int .i64 k ∧ l = .int .i64 (left - es.length - (((es.take k).map (nmBulk n)).sum : Nat)) ∧ ((((es.take k).map (nmBulk n)).sum : Nat) : Int) ≤ left - es.length ∧ Below w.heap.size w wr) (fun _ i _ => es.length - (intOf i).toNat)
    case atStart => exact ⟨0, Nat.zero_le _, rfl, by simp, by simp; omega, Below.refl _ _⟩
    case round =>
      obtain ⟨k, hk, rfl, rfl, hle, hbe⟩ := hrel
      by_cases hlt : k < es.length
      · obtain ⟨b, off, x0, x1, x2, x3, rfl, hbl, hsz, hty, q0, q1, q2, q3, q4⟩ := HEL.out k hlt
        have HM : Hid (((es.take (k + 1)).map (nmBulk n)).sum = ((es.take k).map (nmBulk n)).sum + nmBulk n es[k]) := envSum_more n es k hlt
        have HL : Hid (((es.take (k + 1)).map (nmBulk n)).sum ≤ (es.map (nmBulk n)).sum) := envSum_le n es (k + 1)
        have c0 := (hbe.cell (p := ⟨b, off + k * 5, none⟩) hbl).trans q0
        have c1 := (hbe.cell (p := ⟨b, off + k * 5 + 1, none⟩) hbl).trans q1
        have c2 := (hbe.cell (p := ⟨b, off + k * 5 + 2, none⟩) hbl).trans q2
        have c3 := (hbe.cell (p := ⟨b, off + k * 5 + 3, none⟩) hbl).trans q3
        have c4 := (hbe.cell (p := ⟨b, off + k * 5 + 4, none⟩) hbl).trans q4
        generalize hS : ((es.take k).map (nmBulk n)).sum = S at *
        have HC : Hid (Calls Tryz.prog 77 #[.agg #[.string es[k].1, x0, x1, x2, x3], .int .i64 (left - es.length - (S : Nat))] wr fun e w' => e = .returned (.int .i64 (leftOf (nmBulk n es[k]) (left - es.length - (S : Nat)))) ∧ Below wr.heap.size wr w') := lawsSzNm n _ x0 x1 x2 x3 _ _ wr hsz (hty.below hbe) (by omega) (by omega)
        clear hS hty hsz q0 q1 q2 q3 q4 HEL
        generalize nmBulk n es[k] = bk at *
        generalize es[k].1 = nm at *
        by_cases hbk : ((S + bk : Nat) : Int) ≤ left - es.length
        · have e1 : leftOf bk (left - es.length - (S : Nat)) = left - es.length - ((S + bk : Nat) : Int) := by
            unfold leftOf
            rw [if_pos (by omega)]
            omega
          rw [e1] at HC
          have hnn : ¬ left - (es.length : Int) - ((S + bk : Nat) : Int) < 0 := by omega
          clear e1
          generalize hq : S + bk = Q at *
          have HQ : Hid (((es.take (k + 1)).map (nmBulk n)).sum = Q) := HM.out.trans rfl
          clear hq HM HL
          go_wp2_with fail
          refine HC.out.mono ?_
          rintro e w2 ⟨rfl, hb2⟩
          have hbe2 : Below w.heap.size w w2 := hbe.trans (hb2.mono hbe.size)
          go_wp2_with fail
          go_roundw
          case rel => exact ⟨k + 1, by omega, by go_num, by rw [HQ.out], by rw [HQ.out]; exact hbk, hbe2⟩
          case measure => simp [intOf]; omega
        · have e1 : leftOf bk (left - es.length - (S : Nat)) = -1 := if_neg (by omega)
          rw [e1] at HC
          have HR : Hid (leftOf (envBulk n es) left = -1) := if_neg (by
            have h1 := HM.out
            have h2 := HL.out
            unfold envBulk
            omega)
          clear e1 HM HL
          go_wp2_with fail
          refine HC.out.mono ?_
          rintro e w2 ⟨rfl, hb2⟩
          have hbe2 : Below w.heap.size w w2 := hbe.trans (hb2.mono hbe.size)
          go_wp2_with fail
          go_ret
          exact ⟨by rw [HR.out]; rfl, hbe2⟩
      · have hke : k = es.length := by omega
        subst hke
        rw [List.take_of_length_le (Nat.le_refl _)] at hle ⊢
        have HR : Hid (leftOf (envBulk n es) left = left - es.length - ((es.map (nmBulk n)).sum : Nat)) := by
          show _ = _
          unfold leftOf envBulk
          rw [if_pos (by omega)]
          omega
        generalize (es.map (nmBulk n)).sum = S at *
        clear HEL
        go_wp2_with fail
        go_ret
        exact ⟨by rw [HR.out]; rfl, hbe⟩

end Go.Proofs.YtikoacgfnojoeaaGreatDoor

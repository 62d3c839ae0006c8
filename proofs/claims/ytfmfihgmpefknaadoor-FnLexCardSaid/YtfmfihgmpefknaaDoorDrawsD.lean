/-
  The walk of the draw DrawLex.
-/
import Derived.Test.YtfmfihgmpefknaaDoorDrawsC
namespace Go.Proofs.YtfmfihgmpefknaaDoor
open Go.RowKit

def strLen : Value → Nat
  | .string s => s.size
  | _ => 0

set_option maxHeartbeats 1600000 in
set_option maxRecDepth 100000 in
theorem drawLex (a : Option Addr) (len cap : Nat) (w : World) (hA : CodeL w a len) :
    Calls Tryd.prog 34 #[.slice a len cap] w fun e w' => ∃ s : ByteArray, e = .returned (.string s) ∧ s.size ≤ 4000 ∧ Below w.heap.size w w' := by
  have HA : Hid (CodeL w a len) := hA
  clear hA
  go_enter Tryd.func34, Tryd.ntmps34
  go_wp2_with fail
  refine (drawNew a len cap _ HA.out.low HA.out.code HA.out.size).mono ?_
  rintro e w1 ⟨rfl, hC1, hb1⟩
  have HC1 : Hid (Cur w.heap.size w1 w.heap.size a len cap ∧ Below w.heap.size w w1) := ⟨hC1, hb1⟩
  clear hC1 hb1
  go_wp2_with fail
  refine (drawBelow w.heap.size w.heap.size a len cap _ 12 HC1.out.1 (by omega)).mono ?_
  rintro e w2 ⟨y, rfl, hy0, hy1, _, hC2, hg2⟩
  have HC2 : Hid (Cur w.heap.size w2 w.heap.size a len cap ∧ Below w.heap.size w w2) := ⟨hC2, HC1.out.2.trans (HC1.out.1.belowC hg2)⟩
  have hy2 := hy1 (by omega)
  obtain ⟨m, rfl⟩ := Int.eq_ofNat_of_zero_le hy0
  clear hC2 hg2 HC1 hy1
  go_wp2
  go_loopw [4, 6] (fun v i wr => ∃ (S : ByteArray) (k : Nat), v = .string S ∧ i = .int .i64 k ∧ k ≤ m ∧ S.size ≤ k * 13 ∧ Cur w.heap.size wr w.heap.size a len cap ∧ Below w.heap.size w wr) (fun _ i _ => m - (intOf i).toNat)
  case atStart => exact ⟨⟨#[]⟩, 0, rfl, rfl, Nat.zero_le _, by decide, HC2.out.1, HC2.out.2⟩
  case round =>
    obtain ⟨S, k, rfl, rfl, hk, hS, hC, hb⟩ := hrel
    clear HC2
    have HC : Hid (Cur w.heap.size wr w.heap.size a len cap ∧ Below w.heap.size w wr) := ⟨hC, hb⟩
    clear hC hb
    by_cases hlt : k < m
    · have HP := pickLit w.heap.size w.heap.size a len cap wr drawBitsL HC.out.1 (by decide) (by decide) 12 (sizeB _ _ (by decide))
      simp only [strV, drawBitsL, List.map_cons, List.map_nil, List.length_cons, List.length_nil] at HP
      have HQ : Hid (type_of% HP) := HP
      clear HP
      have hS2 : S.size ≤ 200 := by omega
      go_wp2_with fail
      refine HQ.out.mono ?_
      rintro e w3 ⟨t, rfl, ht, hC3, hb3⟩
      have HC3 : Hid (Cur w.heap.size w3 w.heap.size a len cap ∧ Below w.heap.size w w3) := ⟨hC3, HC.out.2.trans hb3⟩
      have hST : (S ++ t).size = S.size + t.size := ByteArray.size_append
      clear hC3 hb3 HC HQ
      go_wp2_with fail
      refine (drawOnce w.heap.size w.heap.size a len cap _ 2 HC3.out.1 (by omega)).mono ?_
      rintro e w4 ⟨x, rfl, hC4, hg4⟩
      have HC4 : Hid (Cur w.heap.size w4 w.heap.size a len cap ∧ Below w.heap.size w w4) := ⟨hC4, HC3.out.2.trans (HC3.out.1.belowC hg4)⟩
      clear hC4 hg4 HC3
      generalize S ++ t = V at *
      have hVs : (V ++ (⟨#[32]⟩ : ByteArray)).size = V.size + 1 := by rw [ByteArray.size_append]; rfl
      have hV2 : V.size ≤ 300 := by omega
      cases x with
      | true =>
        go_wp2
        go_roundw
        case rel => exact ⟨V ++ ⟨#[32]⟩, k + 1, rfl, by go_num, by omega, by omega, HC4.out.1, HC4.out.2⟩
        case measure => simp [intOf]; omega
      | false =>
        go_wp2
        go_roundw
        case rel => exact ⟨V, k + 1, rfl, by go_num, by omega, by omega, HC4.out.1, HC4.out.2⟩
        case measure => simp [intOf]; omega
    · have hS3 : S.size ≤ 143 := by omega
      go_wp2_with fail
      refine (drawBelow w.heap.size w.heap.size a len cap _ 14 HC.out.1 (by omega)).mono ?_
      rintro e w3 ⟨x, rfl, hx0, hx1, _, hC3, hg3⟩
      have HC3 : Hid (Cur w.heap.size w3 w.heap.size a len cap ∧ Below w.heap.size w w3) := ⟨hC3, HC.out.2.trans (HC.out.1.belowC hg3)⟩
      clear hC3 hg3 HC hx1
      by_cases x0 : x = 0
      · subst x0
        have HP := pickLit w.heap.size w.heap.size a len cap w3 drawBadL HC3.out.1 (by decide) (by decide) 13 (sizeB _ _ (by decide))
        simp only [strV, drawBadL, List.map_cons, List.map_nil, List.length_cons, List.length_nil] at HP
        have HQ : Hid (type_of% HP) := HP
        clear HP
        go_wp2_with fail
        refine HQ.out.mono ?_
        rintro e w4 ⟨t, rfl, ht, hC4, hb4⟩
        have HC4 : Hid (Below w.heap.size w w4) := HC3.out.2.trans hb4
        have hST : (S ++ t).size = S.size + t.size := ByteArray.size_append
        clear hC4 hb4 HC3 HQ
        go_wp2
        go_ret
        exact ⟨_, rfl, by omega, HC4.out⟩
      · have g0 : (x == 0) = false := by simp [x0]
        by_cases x1 : x = 1
        · subst x1
          go_wp2
          go_loopw [4] (fun v wr => ∃ S : ByteArray, v = .string S ∧ S.size ≤ 3001 ∧ Cur w.heap.size wr w.heap.size a len cap ∧ Below w.heap.size w wr) (fun v _ => 3001 - strLen v)
          case atStart => exact ⟨S, rfl, by omega, HC3.out.1, HC3.out.2⟩
          case round =>
            obtain ⟨U, rfl, hU, hC, hb⟩ := hrel
            clear HC3
            have HC : Hid (Cur w.heap.size wr w.heap.size a len cap ∧ Below w.heap.size w wr) := ⟨hC, hb⟩
            clear hC hb
            go_wp2_with fail
            refine (drawBelow w.heap.size w.heap.size a len cap _ 2 HC.out.1 (by omega)).mono ?_
            rintro e w4 ⟨z, rfl, hz0, hz1, _, hC4, hg4⟩
            have HC4 : Hid (Cur w.heap.size w4 w.heap.size a len cap ∧ Below w.heap.size w w4) := ⟨hC4, HC.out.2.trans (HC.out.1.belowC hg4)⟩
            have hz2 := hz1 (by omega)
            clear hC4 hg4 HC hz1
            have hUs : (U ++ (⟨#[32]⟩ : ByteArray)).size = U.size + 1 := by rw [ByteArray.size_append]; rfl
            by_cases hc : (U.size : Int) < 3000 + z
            · go_wp2
              go_roundw
              case rel => exact ⟨U ++ ⟨#[32]⟩, rfl, by omega, HC4.out.1, HC4.out.2⟩
              case measure => simp only [strLen]; omega
            · go_wp2
              go_ret
              exact ⟨_, rfl, by omega, HC4.out.2⟩
        · have g1 : (x == 1) = false := by simp [x1]
          go_wp2
          go_ret
          exact ⟨_, rfl, by omega, HC3.out.2⟩

end Go.Proofs.YtfmfihgmpefknaaDoor

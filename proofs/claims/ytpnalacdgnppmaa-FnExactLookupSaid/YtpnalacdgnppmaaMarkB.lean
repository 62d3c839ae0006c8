/-
  The walk of the law's own helper markText, alone.
-/
import Derived.Test.YtpnalacdgnppmaaRows
import Derived.WalkKit
import Derived.WalkSpells
import Derived.WalkLawsBesides
import Derived.Laws.BytesArg
import Derived.Deep.RegionWith
namespace Go.Proofs.Ytpnalacdgnppmaa
open Go.RowKit

def ints (l : List Nat) : List Int := l.map fun (x : Nat) => (x : Int)
def cellsOf (l : List Nat) : List Value := (ints l).map (Value.int .u8)

theorem conv_own {P : Program} {B e src dst : Nat} {w1 : World} {v : Value} {l : List Nat} (hs : P.underlying src = some (.slice e)) (he : P.underlying e = some (.int .u8)) (hd : P.underlying dst = some .string)
    (hown : w1.ownsRow B e 1 v l.length (cellsOf l)) (hne : l ≠ []) : (convert src dst v).run P w1 = .ok (.string (strOfNums (ints l))) w1 := by
  have h0 := hown
  rcases hown.2 with ⟨_, h⟩ | ⟨g, cap, cur, rfl, hg, hh, hnc, hcp, hcs, htake⟩
  · exact absurd (List.length_eq_zero_iff.1 h) hne
  · refine run_convert_bytes_arg w1 src e hs he g 0 l.length cap (ints l) (by simp [ints]) (fun i hi => ?_) dst hd
    rw [Nat.zero_add]
    have := h0.cellAt i (by simpa using hi)
    rw [this]
    simp [cellsOf, ints, hi]

/-- decimal digits -/
def digs : Nat → Nat → List Nat
  | 0, _ => []
  | f + 1, k => if k = 0 then [] else digs f (k / 10) ++ [48 + k % 10]
theorem digs_zero (f : Nat) : digs f 0 = [] := by cases f <;> simp [digs]
theorem digs_more (f k : Nat) (h : 0 < k) : digs (f + 1) k = digs f (k / 10) ++ [48 + k % 10] := by
  rw [digs, if_neg (by omega)]

/-- a mark -/
def markB (k : Nat) : ByteArray := strOfNums (ints (109 :: digs 20 k))

theorem str_cons (a : Nat) (l : List Nat) : strOfNums (ints [a]) ++ strOfNums (ints l) = strOfNums (ints (a :: l)) := by
  apply ByteArray.ext
  simp [strOfNums, ints]

set_option maxHeartbeats 400000 in
theorem lawsMark (K : Nat) (w : World) (h0 : 1 ≤ K) (h1 : (K : Int) ≤ 9223372036854775807) :
    Calls Try.prog 22 #[.int .i64 K] w fun e w' => e = .returned (.string (markB K)) ∧ Below w.heap.size w w' := by
  have hle : ¬ (K : Int) ≤ 0 := by omega
  go_enter Try.func22, Try.ntmps22
  go_wp2
  go_loopw [0, 3] (fun i o wr => ∃ (k f : Nat) (l : List Nat), i = .int .i64 k ∧ k ≤ K ∧ k < 10 ^ f ∧ l.length + f = 20 ∧ o = .string (strOfNums (ints l)) ∧ digs f k ++ l = digs 20 K ∧ Below w.heap.size w wr) (fun i _ _ => (intOf i).toNat)
  case atStart => exact ⟨K, 20, [], rfl, Nat.le_refl _, by omega, rfl, rfl, by simp, Below.refl _ _⟩
  case round =>
    obtain ⟨k, f, l, rfl, hk, hf, hl, rfl, hd, hbe⟩ := hrel
    have HF : Hid (k < 10 ^ f) := hf
    have HD : Hid (digs f k ++ l = digs 20 K) := hd
    have hsz := hbe.size
    have hO : (strOfNums (ints l)).size ≤ 20 := by rw [strOfNums_size]; simp [ints]; omega
    clear hf hd
    by_cases hlt : 0 < k
    · obtain ⟨f, rfl⟩ : ∃ q, f = q + 1 := by
        cases f with
        | zero => have := HF.out; simp at this; omega
        | succ q => exact ⟨q, rfl⟩
      have HF2 : Hid (k / 10 < 10 ^ f) := by
        have h2 : k < 10 ^ (f + 1) := HF.out
        rw [Nat.pow_succ] at h2
        exact Nat.div_lt_of_lt_mul (by omega)
      have HD2 : Hid (digs f (k / 10) ++ ((48 + k % 10) :: l) = digs 20 K) := by
        have h2 : digs (f + 1) k ++ l = digs 20 K := HD.out
        rw [digs_more f k hlt, List.append_assoc] at h2
        exact h2
      have hcv : (convert 60 9 (.slice (some ⟨wr.heap.size, 0, none⟩) 1 1)).run Try.prog (wr.alloc (Obj.cells #[Value.int .u8 (48 + (k : Int) % 10)] 5)) = .ok (.string (strOfNums (ints [48 + k % 10]))) (wr.alloc (Obj.cells #[Value.int .u8 (48 + (k : Int) % 10)] 5)) := by
        refine conv_own (B := wr.heap.size) (e := 5) (l := [48 + k % 10]) Try.underlying60 Try.underlying5 Try.underlying9 ?_ (by simp)
        have := World.ownsRow_lit (base := wr.heap.size) (e := 5) (size := 1) wr #[Value.int .u8 (48 + (k : Int) % 10)] 1 (Nat.le_refl _) (by decide) rfl
        simpa [cellsOf, ints] using this
      have hV : (strOfNums (ints [48 + k % 10])).size = 1 := by rw [strOfNums_size]; rfl
      have HS : Hid (strOfNums (ints [48 + k % 10]) ++ strOfNums (ints l) = strOfNums (ints ((48 + k % 10) :: l))) := str_cons _ _
      have hV1 : (strOfNums (ints [48 + k % 10])).size ≤ 1 := by omega
      clear hV
      generalize strOfNums (ints [48 + k % 10]) = V at *
      generalize hOe : strOfNums (ints l) = O at *
      clear hOe
      go_wp2
      go_roundw
      case rel => exact ⟨k / 10, f, (48 + k % 10) :: l, by go_num, by omega, HF2.out, by simp; omega, by rw [HS.out], HD2.out, hbe.alloc hsz _⟩
      case measure => simp [intOf]; omega
    · have hk0 : k = 0 := by omega
      subst hk0
      have HE : Hid (l = digs 20 K) := by
        have h2 : digs f 0 ++ l = digs 20 K := HD.out
        rw [digs_zero] at h2
        exact h2
      have HM : Hid ((⟨#[109]⟩ : ByteArray) ++ strOfNums (ints l) = markB K) := by
        show _ = _
        unfold markB
        rw [← HE.out, ← str_cons]
        rfl
      generalize hOe : strOfNums (ints l) = O at *
      clear hOe
      go_wp2
      go_ret
      exact ⟨by rw [← HM.out]; rfl, hbe⟩

end Go.Proofs.Ytpnalacdgnppmaa

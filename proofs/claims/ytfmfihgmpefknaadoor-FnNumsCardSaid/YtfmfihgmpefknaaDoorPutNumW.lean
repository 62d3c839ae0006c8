/-
  The walks of impl.PutNum and spec.PutNum: each answers the bytes of its number, or the empty text, and turns nothing that was there.
-/
import Derived.Test.YtfmfihgmpefknaaDoorRows
import Derived.Test.YtfmfihgmpefknaaDoorPlain
import Derived.WalkKit
import Derived.WalkSpells
import Derived.WalkLawsBesides
import Derived.Laws.BytesArg
namespace Go.Proofs.YtfmfihgmpefknaaDoor
open Go.RowKit

theorem Tryd.infoByte : (Tryd.prog.info? 5).map (fun i => (i.zero, i.size, i.bytes)) = some (some (.int .u8 0), 1, 1) := by kernel_rfl

/-- bytes as numbers of the model -/
def ints (l : List Nat) : List Int := l.map fun (x : Nat) => (x : Int)
def cellsOf (l : List Nat) : List Value := (ints l).map (Value.int .u8)

set_option maxHeartbeats 400000 in
theorem implPutNum_no (n : Int) (w : World) (h : n < 0 ∨ 999999999 < n) :
    Calls Tryd.prog 8 #[.int .i64 n] w fun e w' => e = .returned (.string ⟨#[]⟩) ∧ w' = w := by
  rcases h with h | h
  · go_enter Tryd.func8, Tryd.ntmps8
    go_wp2
    go_ret
    exact ⟨rfl, rfl⟩
  · have h0 : ¬ n < 0 := by omega
    go_enter Tryd.func8, Tryd.ntmps8
    go_wp2
    go_ret
    exact ⟨rfl, rfl⟩

/-- behind an append of one byte: what is owned, and what has not turned -/
theorem step_own {B e : Nat} {w wr w1 : World} {v v' : Value} {o : Obj} {pre : List Nat} {b : Nat} (hBw : B ≤ wr.heap.size)
    (hown : wr.ownsRow B e 1 v pre.length (cellsOf pre)) (hnx : Below B w wr)
    (hown' : w1.ownsRow B e 1 v' (pre.length + 1) (cellsOf pre ++ [.int .u8 (b : Int)])) (hgrow : (wr.alloc o).grownBy w1 v.ownBlock) :
    w1.ownsRow B e 1 v' (pre ++ [b]).length (cellsOf (pre ++ [b])) ∧ Below B w w1 ∧ B ≤ w1.heap.size := by
  have hB1 : Below B w w1 := (hnx.alloc (by omega) o).grown hgrow (by simp; omega) (fun j hj => (hown.lt j hj).1)
  refine ⟨by simpa [cellsOf, ints] using hown', hB1, ?_⟩
  have := hgrow.size
  simp at this
  omega

/-- a text out of a row that is owned -/
theorem conv_own {P : Program} {B e src dst : Nat} {w1 : World} {v : Value} {l : List Nat} (hs : P.underlying src = some (.slice e)) (he : P.underlying e = some (.int .u8)) (hd : P.underlying dst = some .string)
    (hown : w1.ownsRow B e 1 v l.length (cellsOf l)) (hne : l ≠ []) : (convert src dst v).run P w1 = .ok (.string (strOfNums (ints l))) w1 := by
  have h0 := hown
  rcases hown.2 with ⟨_, h⟩ | ⟨g, cap, cur, rfl, hg, hh, hnc, hcp, hcs, htake⟩
  · exact absurd (List.length_eq_zero_iff.1 h) hne
  · refine run_convert_bytes_arg w1 src e hs he g 0 l.length cap (ints l) (by simp [ints]) (fun i hi => ?_) dst hd
    rw [Nat.zero_add]
    have := h0.cellAt i (by simpa using hi)
    rw [this]
    simp [cellsOf, ints, hi]

set_option maxHeartbeats 400000 in
set_option maxRecDepth 100000 in
theorem implPutNum_yes (n0 : Nat) (w : World) (h : n0 ≤ 999999999) :
    Calls Tryd.prog 8 #[.int .i64 n0] w fun e w' => e = .returned (.string (strOfNums (ints (Plain.encF 4 n0)))) ∧ Below w.heap.size w w' := by
  obtain ⟨i0, hi, hz0, hz1, hz2⟩ := info_parts Tryd.infoByte
  have h0 : ¬ (n0 : Int) < 0 := by omega
  have h1 : decide ((999999999 : Int) < n0) = false := by simp; omega
  go_enter Tryd.func8, Tryd.ntmps8
  go_wp2
  go_loopw [0, 3] (fun i v wr => ∃ (k f : Nat) (pre : List Nat), i = .int .i64 k ∧ k < 128 ^ (f + 1) ∧ pre.length + f = 4 ∧ pre ++ Plain.encF f k = Plain.encF 4 n0 ∧ wr.ownsRow w.heap.size 5 1 v pre.length (cellsOf pre) ∧ Below w.heap.size w wr ∧ w.heap.size ≤ wr.heap.size)
    (fun i _ _ => (intOf i).toNat)
  case atStart => exact ⟨n0, 4, [], rfl, by omega, rfl, rfl, World.ownsRow_nil _ _ _ _, Below.refl _ _, Nat.le_refl _⟩
  case round =>
    obtain ⟨k, f, pre, rfl, hk, hlen, henc, hown, hnx, hsz⟩ := hrel
    have hkk : k < 34359738368 := by
      have : 128 ^ (f + 1) ≤ 128 ^ 5 := Nat.pow_le_pow_right (by omega) (by omega)
      omega
    have HE : Hid (pre ++ Plain.encF f k = Plain.encF 4 n0) := henc
    have HK : Hid (k < 128 ^ (f + 1)) := hk
    clear henc hk
    by_cases hlt : 128 ≤ k
    · go_wp2_with (at_builtin; refine wpList_append_own _ rfl _ _ 22 rfl w.heap.size 5 i0 (.int .u8 0) 1 1 Tryd.underlying22 hi hz0 hz1 hz2 rfl (by decide) _ _ _ rfl (hown.alloc _) ⟨wr.heap.size, 0, none⟩ 1 1 [.int .u8 ((k : Int) % 128 + 128)] rfl rfl (cell_one_new _ _ _) ?c2 ?c3 ?c4 ?c5 ?_)
      case c2 => intro u hu; simp at hu; subst hu; rfl
      case c3 => unfold maxLen; omega
      case c4 => omega
      case c5 => simp; omega
      intro v' w1 hown' hgrow _
      have hcast : ((k : Int) % 128 + 128) = ((k % 128 + 128 : Nat) : Int) := by omega
      rw [hcast] at hown'
      obtain ⟨R1, R2, R3⟩ := step_own hsz hown hnx hown' hgrow
      clear hown' hgrow hown hcast
      obtain ⟨f, rfl⟩ : ∃ g, f = g + 1 := by
        cases f with
        | zero => have := HK.out; omega
        | succ g => exact ⟨g, rfl⟩
      have HK2 : Hid (k / 128 < 128 ^ (f + 1)) := by
        have h2 : k < 128 ^ (f + 1 + 1) := HK.out
        rw [Nat.pow_succ] at h2
        exact Nat.div_lt_of_lt_mul (by omega)
      have HE2 : Hid ((pre ++ [k % 128 + 128]) ++ Plain.encF f (k / 128) = Plain.encF 4 n0) := by
        have h2 : pre ++ Plain.encF (f + 1) k = Plain.encF 4 n0 := HE.out
        rw [Plain.encF_big _ _ hlt] at h2
        rw [List.append_assoc]
        exact h2
      clear HK HE
      go_wp2
      go_roundw
      case rel => exact ⟨k / 128, f, pre ++ [k % 128 + 128], by go_num, HK2.out, by simp; omega, HE2.out, R1, R2, R3⟩
      case measure => simp [intOf]; omega
    · go_wp2_with (at_builtin; refine wpList_append_own _ rfl _ _ 22 rfl w.heap.size 5 i0 (.int .u8 0) 1 1 Tryd.underlying22 hi hz0 hz1 hz2 rfl (by decide) _ _ _ rfl (hown.alloc _) ⟨wr.heap.size, 0, none⟩ 1 1 [.int .u8 (k : Int)] rfl rfl (cell_one_new _ _ _) ?c2 ?c3 ?c4 ?c5 ?_)
      case c2 => intro u hu; simp at hu; subst hu; rfl
      case c3 => unfold maxLen; omega
      case c4 => omega
      case c5 => simp; omega
      intro v' w1 hown' hgrow _
      obtain ⟨R1, R2, R3⟩ := step_own hsz hown hnx hown' hgrow
      have hcv := conv_own (dst := 9) Tryd.underlying22 Tryd.underlying5 Tryd.underlying9 R1 (by simp)
      have HF : Hid (pre ++ [k] = Plain.encF 4 n0) := by
        have h2 : pre ++ Plain.encF f k = Plain.encF 4 n0 := HE.out
        rw [Plain.encF_small _ _ (by omega)] at h2
        exact h2
      clear hown' hgrow hown HE R1
      go_wp2
      go_ret
      exact ⟨by rw [HF.out]; rfl, R2⟩

theorem l01In_yes (x a b : Int) (w : World) (h1 : a ≤ x) (h2 : x ≤ b) :
    Calls Tryd.prog 52 #[.int .i64 x, .int .i64 a, .int .i64 b] w fun e w' => e = .returned (.bool true) ∧ w = w' := by
  go_enter Tryd.func52, Tryd.ntmps52
  go_wp2
  go_ret
  exact ⟨rfl, rfl⟩

set_option maxHeartbeats 400000 in
theorem specPutNum_no (n : Int) (w : World) (h : n < 0 ∨ 999999999 < n) :
    Calls Tryd.prog 18 #[.int .i64 n] w fun e w' => e = .returned (.string ⟨#[]⟩) ∧ w' = w := by
  rcases h with h | h
  · have h0 : ¬ (0 : Int) ≤ n := by omega
    go_enter Tryd.func18, Tryd.ntmps18
    go_wp2
    go_ret
    exact ⟨rfl, rfl⟩
  · have h0 : (0 : Int) ≤ n := by omega
    have h1 : ¬ n ≤ 999999999 := by omega
    go_enter Tryd.func18, Tryd.ntmps18
    go_wp2
    go_ret
    exact ⟨rfl, rfl⟩

set_option maxHeartbeats 400000 in
set_option maxRecDepth 100000 in
theorem specPutNum_yes (n0 : Nat) (w : World) (h : n0 ≤ 999999999) :
    Calls Tryd.prog 18 #[.int .i64 n0] w fun e w' => e = .returned (.string (strOfNums (ints (Plain.encF 4 n0)))) ∧ Below w.heap.size w w' := by
  obtain ⟨i0, hi, hz0, hz1, hz2⟩ := info_parts Tryd.infoByte
  have h0 : (0 : Int) ≤ n0 := by omega
  have h1 : (n0 : Int) ≤ 999999999 := by omega
  go_enter Tryd.func18, Tryd.ntmps18
  go_wp2_with (go_at_call 52; refine (l01In_yes _ _ _ _ h0 h1).mono ?_; rintro e w' ⟨rfl, rfl⟩)
  go_loopw [0, 3] (fun i v wr => ∃ (k f : Nat) (pre : List Nat), i = .int .i64 k ∧ k < 128 ^ (f + 1) ∧ pre.length + f = 4 ∧ pre ++ Plain.encF f k = Plain.encF 4 n0 ∧ wr.ownsRow w.heap.size 5 1 v pre.length (cellsOf pre) ∧ Below w.heap.size w wr ∧ w.heap.size ≤ wr.heap.size)
    (fun i _ _ => (intOf i).toNat)
  case atStart => exact ⟨n0, 4, [], rfl, by omega, rfl, rfl, World.ownsRow_made w #[] 0 (Nat.le_refl _) (by decide) rfl, (Below.refl _ _).alloc (Nat.le_refl _) _, by simp⟩
  case round =>
    obtain ⟨k, f, pre, rfl, hk, hlen, henc, hown, hnx, hsz⟩ := hrel
    have hkk : k < 34359738368 := by
      have : 128 ^ (f + 1) ≤ 128 ^ 5 := Nat.pow_le_pow_right (by omega) (by omega)
      omega
    have HE : Hid (pre ++ Plain.encF f k = Plain.encF 4 n0) := henc
    have HK : Hid (k < 128 ^ (f + 1)) := hk
    clear henc hk
    by_cases hlt : 128 ≤ k
    · go_wp2_with (at_builtin; refine wpList_append_own _ rfl _ _ 22 rfl w.heap.size 5 i0 (.int .u8 0) 1 1 Tryd.underlying22 hi hz0 hz1 hz2 rfl (by decide) _ _ _ rfl (hown.alloc _) ⟨wr.heap.size, 0, none⟩ 1 1 [.int .u8 (128 + (k : Int) % 128)] rfl rfl (cell_one_new _ _ _) ?c2 ?c3 ?c4 ?c5 ?_)
      case c2 => intro u hu; simp at hu; subst hu; rfl
      case c3 => unfold maxLen; omega
      case c4 => omega
      case c5 => simp; omega
      intro v' w1 hown' hgrow _
      have hcast : (128 + (k : Int) % 128) = ((k % 128 + 128 : Nat) : Int) := by omega
      rw [hcast] at hown'
      obtain ⟨R1, R2, R3⟩ := step_own hsz hown hnx hown' hgrow
      clear hown' hgrow hown hcast
      obtain ⟨f, rfl⟩ : ∃ g, f = g + 1 := by
        cases f with
        | zero => have := HK.out; omega
        | succ g => exact ⟨g, rfl⟩
      have HK2 : Hid (k / 128 < 128 ^ (f + 1)) := by
        have h2 : k < 128 ^ (f + 1 + 1) := HK.out
        rw [Nat.pow_succ] at h2
        exact Nat.div_lt_of_lt_mul (by omega)
      have HE2 : Hid ((pre ++ [k % 128 + 128]) ++ Plain.encF f (k / 128) = Plain.encF 4 n0) := by
        have h2 : pre ++ Plain.encF (f + 1) k = Plain.encF 4 n0 := HE.out
        rw [Plain.encF_big _ _ hlt] at h2
        rw [List.append_assoc]
        exact h2
      clear HK HE
      go_wp2
      go_roundw
      case rel => exact ⟨k / 128, f, pre ++ [k % 128 + 128], by go_num, HK2.out, by simp; omega, HE2.out, R1, R2, R3⟩
      case measure => simp [intOf]; omega
    · go_wp2_with (at_builtin; refine wpList_append_own _ rfl _ _ 22 rfl w.heap.size 5 i0 (.int .u8 0) 1 1 Tryd.underlying22 hi hz0 hz1 hz2 rfl (by decide) _ _ _ rfl (hown.alloc _) ⟨wr.heap.size, 0, none⟩ 1 1 [.int .u8 (k : Int)] rfl rfl (cell_one_new _ _ _) ?c2 ?c3 ?c4 ?c5 ?_)
      case c2 => intro u hu; simp at hu; subst hu; rfl
      case c3 => unfold maxLen; omega
      case c4 => omega
      case c5 => simp; omega
      intro v' w1 hown' hgrow _
      obtain ⟨R1, R2, R3⟩ := step_own hsz hown hnx hown' hgrow
      have hcv := conv_own (dst := 9) Tryd.underlying22 Tryd.underlying5 Tryd.underlying9 R1 (by simp)
      have HF : Hid (pre ++ [k] = Plain.encF 4 n0) := by
        have h2 : pre ++ Plain.encF f k = Plain.encF 4 n0 := HE.out
        rw [Plain.encF_small _ _ (by omega)] at h2
        exact h2
      clear hown' hgrow hown HE R1
      go_wp2
      go_ret
      exact ⟨by rw [HF.out]; rfl, R2⟩

end Go.Proofs.YtfmfihgmpefknaaDoor

/-
  The walks of the draws l01Num, DrawPutNum, DrawGetNum, DrawPutText, DrawGetText, DrawDecText: what they give has its bounds, and nothing that was there has turned.
-/
import Derived.Test.YtfmfihgmpefknaaDoorCurB
import Derived.Test.YtfmfihgmpefknaaDoorPutTextW
namespace Go.Proofs.YtfmfihgmpefknaaDoor
open Go.RowKit

/-- what is known of the bytes that a draw goes by -/
structure CodeArg (w : World) (a : Option Addr) (len : Nat) : Prop where
  low : ∀ b off, a = some ⟨b, off, none⟩ → 0 < len → b < w.heap.size
  code : Code w a len
  size : len ≤ 1048576

theorem CodeArg.below {w w' : World} {a : Option Addr} {len : Nat} (h : CodeArg w a len) (hb : Below w.heap.size w w') : CodeArg w' a len :=
  ⟨fun b off e hp => Nat.lt_of_lt_of_le (h.low b off e hp) hb.size, h.code.below h.low hb, h.size⟩

def Fits (z : Int) : Prop := -9223372036854775808 ≤ z ∧ z ≤ 9223372036854775807

set_option maxHeartbeats 400000 in
theorem drawNum (B cb : Nat) (a : Option Addr) (len cap : Nat) (w : World) (hC : Cur B w cb a len cap) :
    Calls Tryd.prog 44 #[.pointer (some ⟨cb, 0, none⟩)] w fun e w' => ∃ z : Int, e = .returned (.int .i64 z) ∧ Fits z ∧ Cur B w' cb a len cap ∧ w.grownBy w' (some cb) := by
  have HC : Hid (Cur B w cb a len cap) := hC
  clear hC
  go_enter Tryd.func44, Tryd.ntmps44
  go_wp2_with fail
  refine (drawOnce B cb a len cap _ 3 HC.out (by omega)).mono ?_
  rintro e w1 ⟨x, rfl, hC1, hg1⟩
  have HC1 : Hid (Cur B w1 cb a len cap ∧ w.grownBy w1 (some cb)) := ⟨hC1, hg1⟩
  have hcb := hC1.lt
  clear hC1 hg1 HC
  cases x
  · go_wp2_with fail
    refine (drawBelow B cb a len cap _ 1000 HC1.out.1 (by omega)).mono ?_
    rintro e w2 ⟨y, rfl, hy0, hy1, _, hC2, hg2⟩
    have HC2 : Hid (Cur B w2 cb a len cap ∧ w.grownBy w2 (some cb)) := ⟨hC2, grown_trans HC1.out.2 hg2⟩
    have hy2 := hy1 (by omega)
    clear hC2 hg2 HC1 hy1
    go_wp2
    go_ret
    exact ⟨_, rfl, ⟨by omega, by omega⟩, HC2.out.1, HC2.out.2⟩
  · have HL : Hid (Cur B (w1.alloc (.cells (([0, 127, 128, 16383, 16384, 999999999, 1000000000, -1, 9223372036854775807] : List Int).map (Value.int .i64)).toArray 3)) cb a len cap) := HC1.out.1.alloc _
    have HZ : Hid (∀ z ∈ ([0, 127, 128, 16383, 16384, 999999999, 1000000000, -1, 9223372036854775807] : List Int), Fits z) := by
      show ∀ z ∈ _, _
      unfold Fits
      decide
    have HE : Hid (Calls Tryd.prog 49 #[.pointer (some ⟨cb, 0, none⟩), .slice (some ⟨w1.heap.size, 0, none⟩) 9 9] (w1.alloc (.cells (([0, 127, 128, 16383, 16384, 999999999, 1000000000, -1, 9223372036854775807] : List Int).map (Value.int .i64)).toArray 3)) fun e w' => ∃ z : Int, e = .returned (.int .i64 z) ∧ z ∈ ([0, 127, 128, 16383, 16384, 999999999, 1000000000, -1, 9223372036854775807] : List Int) ∧ Cur B w' cb a len cap ∧ (w1.alloc (.cells (([0, 127, 128, 16383, 16384, 999999999, 1000000000, -1, 9223372036854775807] : List Int).map (Value.int .i64)).toArray 3)).grownBy w' (some cb)) :=
      drawPick B cb w1.heap.size a len cap _ [0, 127, 128, 16383, 16384, 999999999, 1000000000, -1, 9223372036854775807] HL.out (by omega) (by decide) (by decide) (cells_lit w1 _ _)
    go_wp2_with fail
    refine HE.out.mono ?_
    rintro e w2 ⟨z, rfl, hz, hC2, hg2⟩
    have HC2 : Hid (Cur B w2 cb a len cap ∧ w.grownBy w2 (some cb)) := ⟨hC2, grown_trans HC1.out.2 (grown_trans (World.grownBy_alloc _ _ _) hg2)⟩
    have HF : Hid (Fits z) := HZ.out z hz
    clear hC2 hg2 HC1 HE HL HZ hz
    go_wp2
    go_ret
    exact ⟨_, rfl, HF.out, HC2.out.1, HC2.out.2⟩

theorem grown_of_below {w w' : World} (h : Below w.heap.size w w') (r : Option Nat) : w.grownBy w' r := ⟨h.os, h.tape, h.output, h.size, fun k hk _ => h.block k hk⟩
theorem Cur.far {B : Nat} {w w' : World} {cb : Nat} {a : Option Addr} {len cap : Nat} (h : Cur B w cb a len cap) (hb : Below w.heap.size w w') : Cur B w' cb a len cap :=
  h.kept (hb.mono (by have := h.lt; have := h.here; omega)) (hb.block cb h.lt)

/-- PutNum's answer at any number -/
def putNI (n : Int) : ByteArray := if 0 ≤ n ∧ n ≤ 999999999 then numB n.toNat else ⟨#[]⟩
theorem putNI_size (n : Int) : (putNI n).size ≤ 5 := by
  unfold putNI
  by_cases h : 0 ≤ n ∧ n ≤ 999999999
  · rw [if_pos h]; exact numB_size _
  · rw [if_neg h]; simp [ByteArray.size]
theorem specPutNum (n : Int) (w : World) :
    Calls Tryd.prog 18 #[.int .i64 n] w fun e w' => e = .returned (.string (putNI n)) ∧ Below w.heap.size w w' := by
  by_cases h : 0 ≤ n ∧ n ≤ 999999999
  · rw [show putNI n = numB n.toNat from if_pos h]
    obtain ⟨k, rfl⟩ := Int.eq_ofNat_of_zero_le h.1
    rw [Int.toNat_natCast]
    exact specPutNum_yes k w (by omega)
  · rw [show putNI n = ⟨#[]⟩ from if_neg h]
    exact (specPutNum_no n w (by omega)).mono fun e w' hh => ⟨hh.1, by rw [hh.2]; exact Below.refl _ _⟩
theorem implPutNum (n : Int) (w : World) :
    Calls Tryd.prog 8 #[.int .i64 n] w fun e w' => e = .returned (.string (putNI n)) ∧ Below w.heap.size w w' := by
  by_cases h : 0 ≤ n ∧ n ≤ 999999999
  · rw [show putNI n = numB n.toNat from if_pos h]
    obtain ⟨k, rfl⟩ := Int.eq_ofNat_of_zero_le h.1
    rw [Int.toNat_natCast]
    exact implPutNum_yes k w (by omega)
  · rw [show putNI n = ⟨#[]⟩ from if_neg h]
    exact (implPutNum_no n w (by omega)).mono fun e w' hh => ⟨hh.1, by rw [hh.2]; exact Below.refl _ _⟩

set_option maxHeartbeats 400000 in
theorem drawPutNum (a : Option Addr) (len cap : Nat) (w : World) (hA : CodeArg w a len) :
    Calls Tryd.prog 7 #[.slice a len cap] w fun e w' => ∃ z : Int, e = .returned (.int .i64 z) ∧ Fits z ∧ Below w.heap.size w w' := by
  have HA : Hid (CodeArg w a len) := hA
  clear hA
  go_enter Tryd.func7, Tryd.ntmps7
  go_wp2_with fail
  refine (drawNew a len cap _ HA.out.low HA.out.code HA.out.size).mono ?_
  rintro e w1 ⟨rfl, hC1, hb1⟩
  have HC1 : Hid (Cur w.heap.size w1 w.heap.size a len cap ∧ Below w.heap.size w w1) := ⟨hC1, hb1⟩
  clear hC1 hb1
  go_wp2_with fail
  refine (drawNum w.heap.size w.heap.size a len cap _ HC1.out.1).mono ?_
  rintro e w2 ⟨z, rfl, hz, hC2, hg2⟩
  have HB : Hid (Fits z ∧ Below w.heap.size w w2) := ⟨hz, HC1.out.2.trans (HC1.out.1.below hg2)⟩
  clear hz hC2 hg2 HC1
  go_wp2
  go_ret
  exact ⟨z, rfl, HB.out.1, HB.out.2⟩

theorem xy_size (V : ByteArray) : ((⟨#[120]⟩ : ByteArray) ++ V ++ ⟨#[121]⟩).size = V.size + 2 := by
  have h1 : (⟨#[120]⟩ : ByteArray).size = 1 := rfl
  have h2 : (⟨#[121]⟩ : ByteArray).size = 1 := rfl
  rw [ByteArray.size_append, ByteArray.size_append, h1, h2]
  omega

set_option maxHeartbeats 400000 in
theorem drawGetNum (a : Option Addr) (len cap : Nat) (w : World) (hA : CodeArg w a len) :
    Calls Tryd.prog 9 #[.slice a len cap] w fun e w' => ∃ (s : ByteArray) (z : Int), e = .returned (.tuple #[.string s, .int .i64 z]) ∧ s.size ≤ 1000 ∧ Fits z ∧ Below w.heap.size w w' := by
  have HA : Hid (CodeArg w a len) := hA
  clear hA
  go_enter Tryd.func9, Tryd.ntmps9
  go_wp2_with fail
  refine (drawNew a len cap _ HA.out.low HA.out.code HA.out.size).mono ?_
  rintro e w1 ⟨rfl, hC1, hb1⟩
  have HC1 : Hid (Cur w.heap.size w1 w.heap.size a len cap ∧ Below w.heap.size w w1) := ⟨hC1, hb1⟩
  clear hC1 hb1
  go_wp2_with fail
  refine (drawNum w.heap.size w.heap.size a len cap _ HC1.out.1).mono ?_
  rintro e w2 ⟨z, rfl, hz, hC2, hg2⟩
  have HC2 : Hid (Cur w.heap.size w2 w.heap.size a len cap ∧ Below w.heap.size w w2) := ⟨hC2, HC1.out.2.trans (HC1.out.1.below hg2)⟩
  clear hz hC2 hg2 HC1
  go_wp2_with fail
  refine (specPutNum z _).mono ?_
  rintro e w3 ⟨rfl, hb3⟩
  have HC3 : Hid (Cur w.heap.size w3 w.heap.size a len cap ∧ Below w.heap.size w w3) := ⟨HC2.out.1.far hb3, HC2.out.2.trans (hb3.mono HC2.out.2.size)⟩
  have hps := putNI_size z
  generalize putNI z = V at *
  clear hb3 HC2
  go_wp2_with fail
  refine (drawOnce w.heap.size w.heap.size a len cap _ 3 HC3.out.1 (by omega)).mono ?_
  rintro e w4 ⟨x, rfl, hC4, hg4⟩
  have HC4 : Hid (Cur w.heap.size w4 w.heap.size a len cap ∧ Below w.heap.size w w4) := ⟨hC4, HC3.out.2.trans (HC3.out.1.below hg4)⟩
  clear hC4 hg4 HC3
  cases x
  · have HSZ : Hid (((⟨#[120]⟩ : ByteArray) ++ V ++ ⟨#[121]⟩).size ≤ 1000) := by show _ ≤ _; rw [xy_size]; omega
    go_wp2
    go_ret2
    exact ⟨_, _, rfl, HSZ.out, ⟨by omega, by omega⟩, HC4.out.2⟩
  · go_wp2_with fail
    refine (drawBelow w.heap.size w.heap.size a len cap _ 7 HC4.out.1 (by omega)).mono ?_
    rintro e w5 ⟨y, rfl, hy0, hy1, _, hC5, hg5⟩
    have HC5 : Hid (Cur w.heap.size w5 w.heap.size a len cap ∧ Below w.heap.size w w5) := ⟨hC5, HC4.out.2.trans (HC4.out.1.below hg5)⟩
    have hy2 := hy1 (by omega)
    obtain ⟨m, rfl⟩ := Int.eq_ofNat_of_zero_le hy0
    clear hC5 hg5 HC4 hy1
    go_wp2_with fail
    refine (drawBytes w.heap.size w.heap.size a len cap _ m HC5.out.1 (by omega)).mono ?_
    rintro e w6 ⟨t, rfl, ht, hC6, hg6⟩
    have HC6 : Hid (Cur w.heap.size w6 w.heap.size a len cap ∧ Below w.heap.size w w6) := ⟨hC6, HC5.out.2.trans (HC5.out.1.below hg6)⟩
    have hcb := hC6.lt
    have HT : Hid (t.size ≤ 1000) := by show _ ≤ _; omega
    clear hC6 hg6 HC5 ht
    have HL : Hid (Cur w.heap.size (w6.alloc (.cells (([0, 1, -1, 9] : List Int).map (Value.int .i64)).toArray 3)) w.heap.size a len cap) := HC6.out.1.alloc _
    have HE : Hid (Calls Tryd.prog 49 #[.pointer (some ⟨w.heap.size, 0, none⟩), .slice (some ⟨w6.heap.size, 0, none⟩) 4 4] (w6.alloc (.cells (([0, 1, -1, 9] : List Int).map (Value.int .i64)).toArray 3)) fun e w' => ∃ z : Int, e = .returned (.int .i64 z) ∧ z ∈ ([0, 1, -1, 9] : List Int) ∧ Cur w.heap.size w' w.heap.size a len cap ∧ (w6.alloc (.cells (([0, 1, -1, 9] : List Int).map (Value.int .i64)).toArray 3)).grownBy w' (some w.heap.size)) :=
      drawPick w.heap.size w.heap.size w6.heap.size a len cap _ [0, 1, -1, 9] HL.out (by omega) (by decide) (by decide) (cells_lit w6 _ _)
    go_wp2_with fail
    refine HE.out.mono ?_
    rintro e w7 ⟨q, rfl, hq, hC7, hg7⟩
    have HF : Hid (Fits q ∧ Below w.heap.size w w7) := ⟨by simp at hq; unfold Fits; omega, HC6.out.2.trans (((Below.refl _ _).alloc (by omega) _).trans (HL.out.below hg7))⟩
    clear hC7 hg7 HC6 HE HL hq
    go_wp2
    go_ret2
    exact ⟨_, _, rfl, HT.out, HF.out.1, HF.out.2⟩

set_option maxHeartbeats 400000 in
theorem drawPutText (a : Option Addr) (len cap : Nat) (w : World) (hA : CodeArg w a len) :
    Calls Tryd.prog 12 #[.slice a len cap] w fun e w' => ∃ s : ByteArray, e = .returned (.string s) ∧ s.size ≤ 1000 ∧ Below w.heap.size w w' := by
  have HA : Hid (CodeArg w a len) := hA
  clear hA
  go_enter Tryd.func12, Tryd.ntmps12
  go_wp2_with fail
  refine (drawNew a len cap _ HA.out.low HA.out.code HA.out.size).mono ?_
  rintro e w1 ⟨rfl, hC1, hb1⟩
  have HC1 : Hid (Cur w.heap.size w1 w.heap.size a len cap ∧ Below w.heap.size w w1) := ⟨hC1, hb1⟩
  clear hC1 hb1
  go_wp2_with fail
  refine (drawBelow w.heap.size w.heap.size a len cap _ 20 HC1.out.1 (by omega)).mono ?_
  rintro e w5 ⟨y, rfl, hy0, hy1, _, hC5, hg5⟩
  have HC5 : Hid (Cur w.heap.size w5 w.heap.size a len cap ∧ Below w.heap.size w w5) := ⟨hC5, HC1.out.2.trans (HC1.out.1.below hg5)⟩
  have hy2 := hy1 (by omega)
  obtain ⟨m, rfl⟩ := Int.eq_ofNat_of_zero_le hy0
  clear hC5 hg5 HC1 hy1
  go_wp2_with fail
  refine (drawBytes w.heap.size w.heap.size a len cap _ m HC5.out.1 (by omega)).mono ?_
  rintro e w6 ⟨t, rfl, ht, hC6, hg6⟩
  have HT : Hid (t.size ≤ 1000 ∧ Below w.heap.size w w6) := ⟨by omega, HC5.out.2.trans (HC5.out.1.below hg6)⟩
  clear hC6 hg6 HC5 ht
  go_wp2
  go_ret
  exact ⟨_, rfl, HT.out.1, HT.out.2⟩

theorem putT_size (s : ByteArray) : (putT s).size ≤ s.size + 5 := by
  unfold putT
  by_cases h : 10000000 < s.size
  · rw [if_pos h]; exact Nat.zero_le _
  · rw [if_neg h, ByteArray.size_append]; have := numB_size s.size; omega

set_option maxHeartbeats 400000 in
theorem drawGetText (a : Option Addr) (len cap : Nat) (w : World) (hA : CodeArg w a len) :
    Calls Tryd.prog 14 #[.slice a len cap] w fun e w' => ∃ (s : ByteArray) (z : Int), e = .returned (.tuple #[.string s, .int .i64 z]) ∧ s.size ≤ 1000 ∧ Fits z ∧ Below w.heap.size w w' := by
  have HA : Hid (CodeArg w a len) := hA
  clear hA
  go_enter Tryd.func14, Tryd.ntmps14
  go_wp2_with fail
  refine (drawNew a len cap _ HA.out.low HA.out.code HA.out.size).mono ?_
  rintro e w1 ⟨rfl, hC1, hb1⟩
  have HC1 : Hid (Cur w.heap.size w1 w.heap.size a len cap ∧ Below w.heap.size w w1) := ⟨hC1, hb1⟩
  clear hC1 hb1
  go_wp2_with fail
  refine (drawBelow w.heap.size w.heap.size a len cap _ 6 HC1.out.1 (by omega)).mono ?_
  rintro e w2 ⟨y, rfl, hy0, hy1, _, hC2, hg2⟩
  have HC2 : Hid (Cur w.heap.size w2 w.heap.size a len cap ∧ Below w.heap.size w w2) := ⟨hC2, HC1.out.2.trans (HC1.out.1.below hg2)⟩
  have hy2 := hy1 (by omega)
  obtain ⟨m, rfl⟩ := Int.eq_ofNat_of_zero_le hy0
  clear hC2 hg2 HC1 hy1
  go_wp2_with fail
  refine (drawBytes w.heap.size w.heap.size a len cap _ m HC2.out.1 (by omega)).mono ?_
  rintro e w3 ⟨t, rfl, ht, hC3, hg3⟩
  have HC3 : Hid (Cur w.heap.size w3 w.heap.size a len cap ∧ Below w.heap.size w w3) := ⟨hC3, HC2.out.2.trans (HC2.out.1.below hg3)⟩
  have hts : t.size ≤ 6 := by omega
  clear hC3 hg3 HC2 ht
  go_wp2_with fail
  refine (specPutText t _ (by omega)).mono ?_
  rintro e w4 ⟨rfl, hb4⟩
  have HC4 : Hid (Cur w.heap.size w4 w.heap.size a len cap ∧ Below w.heap.size w w4) := ⟨HC3.out.1.far hb4, HC3.out.2.trans (hb4.mono HC3.out.2.size)⟩
  have hps := putT_size t
  generalize putT t = V at *
  clear hb4 HC3
  have hV : V.size ≤ 11 := by omega
  go_wp2_with fail
  refine (drawOnce w.heap.size w.heap.size a len cap _ 3 HC4.out.1 (by omega)).mono ?_
  rintro e w5 ⟨x, rfl, hC5, hg5⟩
  have HC5 : Hid (Cur w.heap.size w5 w.heap.size a len cap ∧ Below w.heap.size w w5) := ⟨hC5, HC4.out.2.trans (HC4.out.1.below hg5)⟩
  have hcb := hC5.lt
  clear hC5 hg5 HC4
  have hxy := xy_size V
  cases x
  · have HL : Hid (Cur w.heap.size (w5.alloc (.cells (([1, 1, 0, 2, -1] : List Int).map (Value.int .i64)).toArray 3)) w.heap.size a len cap) := HC5.out.1.alloc _
    have HE : Hid (Calls Tryd.prog 49 #[.pointer (some ⟨w.heap.size, 0, none⟩), .slice (some ⟨w5.heap.size, 0, none⟩) 5 5] (w5.alloc (.cells (([1, 1, 0, 2, -1] : List Int).map (Value.int .i64)).toArray 3)) fun e w' => ∃ z : Int, e = .returned (.int .i64 z) ∧ z ∈ ([1, 1, 0, 2, -1] : List Int) ∧ Cur w.heap.size w' w.heap.size a len cap ∧ (w5.alloc (.cells (([1, 1, 0, 2, -1] : List Int).map (Value.int .i64)).toArray 3)).grownBy w' (some w.heap.size)) :=
      drawPick w.heap.size w.heap.size w5.heap.size a len cap _ [1, 1, 0, 2, -1] HL.out (by omega) (by decide) (by decide) (cells_lit w5 _ _)
    have HSZ : Hid (((⟨#[120]⟩ : ByteArray) ++ V ++ ⟨#[121]⟩).size ≤ 1000) := by show _ ≤ _; omega
    clear hxy
    go_wp2_with fail
    refine HE.out.mono ?_
    rintro e w7 ⟨q, rfl, hq, hC7, hg7⟩
    have HF : Hid (Fits q ∧ Below w.heap.size w w7) := ⟨by simp at hq; unfold Fits; omega, HC5.out.2.trans (((Below.refl _ _).alloc (by omega) _).trans (HL.out.below hg7))⟩
    clear hC7 hg7 HC5 HE HL hq
    go_wp2
    go_ret2
    exact ⟨_, _, rfl, HSZ.out, HF.out.1, HF.out.2⟩
  · generalize (⟨#[120]⟩ : ByteArray) ++ V ++ ⟨#[121]⟩ = S at *
    have hSz : S.size ≤ 13 := by omega
    clear hxy
    go_wp2_with fail
    refine (drawBelow w.heap.size w.heap.size a len cap _ _ HC5.out.1 (by omega)).mono ?_
    rintro e w6 ⟨y, rfl, hq0, hq1, _, hC6, hg6⟩
    have hq2 := hq1 (by omega)
    have HF : Hid (Below w.heap.size w w6) := HC5.out.2.trans (HC5.out.1.below hg6)
    have HSZ : Hid ((S.extract 0 y.toNat).size ≤ 1000) := by show _ ≤ _; simp; omega
    clear hC6 hg6 HC5 hq1
    go_wp2
    go_ret2
    exact ⟨_, _, rfl, HSZ.out, ⟨by omega, by omega⟩, HF.out⟩

set_option maxHeartbeats 400000 in
theorem drawDecText (a : Option Addr) (len cap : Nat) (w : World) (hA : CodeArg w a len) :
    Calls Tryd.prog 17 #[.slice a len cap] w fun e w' => ∃ z : Int, e = .returned (.int .i64 z) ∧ Fits z ∧ Below w.heap.size w w' := by
  have HA : Hid (CodeArg w a len) := hA
  clear hA
  go_enter Tryd.func17, Tryd.ntmps17
  go_wp2_with fail
  refine (drawNew a len cap _ HA.out.low HA.out.code HA.out.size).mono ?_
  rintro e w1 ⟨rfl, hC1, hb1⟩
  have HC1 : Hid (Cur w.heap.size w1 w.heap.size a len cap ∧ Below w.heap.size w w1) := ⟨hC1, hb1⟩
  clear hC1 hb1
  go_wp2_with fail
  refine (drawBelow w.heap.size w.heap.size a len cap _ 100000 HC1.out.1 (by omega)).mono ?_
  rintro e w2 ⟨y, rfl, hy0, hy1, _, hC2, hg2⟩
  have HC2 : Hid (Cur w.heap.size w2 w.heap.size a len cap ∧ Below w.heap.size w w2) := ⟨hC2, HC1.out.2.trans (HC1.out.1.below hg2)⟩
  have hy2 := hy1 (by omega)
  have hcb := hC2.lt
  clear hC2 hg2 HC1 hy1
  have HL : Hid (Cur w.heap.size (w2.alloc (.cells (([0, -1, 10, 9223372036854775807, -9223372036854775808, y] : List Int).map (Value.int .i64)).toArray 3)) w.heap.size a len cap) := HC2.out.1.alloc _
  have HE : Hid (Calls Tryd.prog 49 #[.pointer (some ⟨w.heap.size, 0, none⟩), .slice (some ⟨w2.heap.size, 0, none⟩) 6 6] (w2.alloc (.cells (([0, -1, 10, 9223372036854775807, -9223372036854775808, y] : List Int).map (Value.int .i64)).toArray 3)) fun e w' => ∃ z : Int, e = .returned (.int .i64 z) ∧ z ∈ ([0, -1, 10, 9223372036854775807, -9223372036854775808, y] : List Int) ∧ Cur w.heap.size w' w.heap.size a len cap ∧ (w2.alloc (.cells (([0, -1, 10, 9223372036854775807, -9223372036854775808, y] : List Int).map (Value.int .i64)).toArray 3)).grownBy w' (some w.heap.size)) :=
    drawPick w.heap.size w.heap.size w2.heap.size a len cap _ [0, -1, 10, 9223372036854775807, -9223372036854775808, y] HL.out (by omega) (by simp) (by simp) (cells_lit w2 _ _)
  go_wp2_with fail
  refine HE.out.mono ?_
  rintro e w7 ⟨q, rfl, hq, hC7, hg7⟩
  have HF : Hid (Fits q ∧ Below w.heap.size w w7) := ⟨by simp at hq; unfold Fits; omega, HC2.out.2.trans (((Below.refl _ _).alloc (by omega) _).trans (HL.out.below hg7))⟩
  clear hC7 hg7 HC2 HE HL hq
  go_wp2
  go_ret
  exact ⟨_, rfl, HF.out.1, HF.out.2⟩

end Go.Proofs.YtfmfihgmpefknaaDoor

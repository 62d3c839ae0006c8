/-
  The walks of the draws l01Texts, DrawPutTexts, l01Spoil, DrawGetTexts, DrawKey.
-/
import Derived.Test.YtfmfihgmpefknaaDoorDrawsA
import Derived.Test.YtfmfihgmpefknaaDoorPutTextsW
import Derived.Deep.RegionWith
namespace Go.Proofs.YtfmfihgmpefknaaDoor
open Go.RowKit

set_option maxHeartbeats 1000000 in
set_option maxRecDepth 100000 in
theorem drawTexts (B cb : Nat) (a : Option Addr) (len cap : Nat) (w : World) (hC : Cur B w cb a len cap) :
    Calls Tryd.prog 54 #[.pointer (some ⟨cb, 0, none⟩)] w fun e w' => ∃ (v : Value) (ts : List ByteArray), e = .returned v ∧ ts.length ≤ 201 ∧ sumS ts ≤ 1000 ∧ w'.ownsRow w.heap.size 9 1 v ts.length (strV ts) ∧ Cur B w' cb a len cap ∧ w.grownBy w' (some cb) := by
  obtain ⟨i0, hi, hz0, hz1, hz2⟩ := info_parts Tryd.infoString
  have hlt0 := hC.lt
  have HC : Hid (Cur B w cb a len cap) := hC
  clear hC
  go_enter Tryd.func54, Tryd.ntmps54
  go_wp2_with fail
  refine (drawBelow B cb a len cap _ 5 (HC.out.alloc _) (by omega)).mono ?_
  rintro e w1 ⟨y, rfl, hy0, hy1, _, hC1, hg1⟩
  have hy2 := hy1 (by omega)
  have HW1 : Hid (w1.ownsRow w.heap.size 9 1 (.slice (some ⟨w.heap.size, 0, none⟩) 0 0) 0 []) := (World.ownsRow_made w #[] 0 (Nat.le_refl _) (by decide) rfl).kept hg1 (.inr (fun h => by simp [Value.ownBlock] at h; omega))
  have HC1 : Hid (Cur B w1 cb a len cap ∧ w.grownBy w1 (some cb)) := ⟨hC1, grown_trans (World.grownBy_alloc _ _ _) hg1⟩
  clear hC1 hg1 hy1 HC
  go_wp2_with fail
  refine (drawOnce B cb a len cap _ 40 HC1.out.1 (by omega)).mono ?_
  rintro e w2 ⟨x, rfl, hC2, hg2⟩
  have HW2 : Hid (w2.ownsRow w.heap.size 9 1 (.slice (some ⟨w.heap.size, 0, none⟩) 0 0) 0 []) := HW1.out.kept hg2 (.inr (fun h => by simp [Value.ownBlock] at h; omega))
  have HC2 : Hid (Cur B w2 cb a len cap ∧ w.grownBy w2 (some cb)) := ⟨hC2, grown_trans HC1.out.2 hg2⟩
  clear hC2 hg2 HC1 HW1
  cases x
  · obtain ⟨N, rfl⟩ := Int.eq_ofNat_of_zero_le hy0
    have hN : N ≤ 201 := by omega
    clear hy0 hy2
    have HW := HW2
    clear HW2
    go_wp2
    go_loopw [3, 5] (fun v i wr => ∃ (ts : List ByteArray), ts.length ≤ N ∧ i = .int .i64 (ts.length : Nat) ∧ sumS ts ≤ 3 * ts.length ∧ wr.ownsRow w.heap.size 9 1 v ts.length (strV ts) ∧ Cur B wr cb a len cap ∧ w.grownBy wr (some cb)) (fun _ i _ => N - (intOf i).toNat)
    case atStart => exact ⟨[], Nat.zero_le _, rfl, Nat.le_refl _, HW.out, HC2.out.1, HC2.out.2⟩
    case round =>
      obtain ⟨ts, hl, rfl, hsum, hown, hcur, hgr⟩ := hrel
      have HCr : Hid (Cur B wr cb a len cap) := hcur
      have HGr : Hid (w.grownBy wr (some cb)) := hgr
      have hszr := hgr.size
      clear hcur hgr HW HC2
      by_cases hlt : ts.length < N
      · go_wp2_with fail
        refine (drawBelow B cb a len cap _ 4 HCr.out (by omega)).mono ?_
        rintro e w3 ⟨q, rfl, hq0, hq1, _, hC3, hg3⟩
        have hq2 := hq1 (by omega)
        obtain ⟨m, rfl⟩ := Int.eq_ofNat_of_zero_le hq0
        have hown3 := hown.kept hg3 (.inr (fun h => by have := (hown.lt cb h).1; omega))
        have HC3 : Hid (Cur B w3 cb a len cap ∧ w.grownBy w3 (some cb)) := ⟨hC3, grown_trans HGr.out hg3⟩
        clear hC3 hg3 hq1 hown HCr HGr
        go_wp2_with fail
        refine (drawBytes B cb a len cap _ m HC3.out.1 (by omega)).mono ?_
        rintro e w4 ⟨t, rfl, ht, hC4, hg4⟩
        have hown4 := hown3.kept hg4 (.inr (fun h => by have := (hown3.lt cb h).1; omega))
        have HC4 : Hid (Cur B w4 cb a len cap ∧ w.grownBy w4 (some cb)) := ⟨hC4, grown_trans HC3.out.2 hg4⟩
        have hsz4 : w.heap.size ≤ w4.heap.size := HC4.out.2.size
        have ht3 : t.size ≤ 3 := by omega
        clear hC4 hg4 hown3 HC3 ht
        go_wp2_with (at_builtin; refine wpList_append_own _ rfl _ _ 33 rfl w.heap.size 9 i0 (.string ⟨#[]⟩) 1 16 Tryd.underlying33 hi hz0 hz1 hz2 rfl (by decide) _ _ _ rfl (hown4.alloc _) ⟨w4.heap.size, 0, none⟩ 1 1 [.string t] rfl rfl (cell_one_new _ _ _) ?c2 ?c3 ?c4 ?c5 ?_)
        case c2 => intro u hu; simp at hu; subst hu; rfl
        case c3 => unfold maxLen; omega
        case c4 => omega
        case c5 => simp; omega
        intro v' w5 hown' hgrow _
        have R1 : w5.ownsRow w.heap.size 9 1 v' (ts ++ [t]).length (strV (ts ++ [t])) := by simpa [strV] using hown'
        have hblk : ∀ k, k < w.heap.size → w5.heap[k]? = w4.heap[k]? := fun k hk =>
          (hgrow.block k (by simp; omega) (fun e => by have := (hown4.lt k e.symm).1; omega)).trans (Below.heap_alloc w4 _ k (by omega))
        have hle5 : w4.heap.size ≤ w5.heap.size := by have := hgrow.size; simp at this; omega
        have R3 : w.grownBy w5 (some cb) := ⟨hgrow.os.trans HC4.out.2.os, hgrow.tape.trans HC4.out.2.tape, hgrow.output.trans HC4.out.2.output, Nat.le_trans hsz4 hle5, fun k hk hr => (hblk k hk).trans (HC4.out.2.block k hk hr)⟩
        have R2 : Cur B w5 cb a len cap := HC4.out.1.kept ⟨hgrow.os, hgrow.tape, hgrow.output, hle5, fun k hk => hblk k (by have := HC4.out.1.here; omega)⟩ (hblk cb hlt0)
        have R4 : sumS (ts ++ [t]) ≤ 3 * (ts ++ [t]).length := by rw [sumS_append]; simp [sumS]; omega
        clear hown' hgrow hown4 HC4 hblk hle5 hsz4
        go_wp2
        go_roundw
        case rel => exact ⟨ts ++ [t], by simp; omega, by simp, R4, R1, R2, R3⟩
        case measure => simp [intOf]; omega
      · go_wp2
        go_ret
        exact ⟨_, ts, rfl, by omega, by omega, hown, HCr.out, HGr.out⟩

  · go_wp2_with fail
    refine (drawBelow B cb a len cap _ 2 HC2.out.1 (by omega)).mono ?_
    rintro e w3 ⟨z, rfl, hq0, hq1, _, hC3, hg3⟩
    have hq2 := hq1 (by omega)
    have HW : Hid (w3.ownsRow w.heap.size 9 1 (.slice (some ⟨w.heap.size, 0, none⟩) 0 0) 0 []) := HW2.out.kept hg3 (.inr (fun h => by simp [Value.ownBlock] at h; omega))
    have HC3 : Hid (Cur B w3 cb a len cap ∧ w.grownBy w3 (some cb)) := ⟨hC3, grown_trans HC2.out.2 hg3⟩
    clear hC3 hg3 HC2 HW2 hq1
    have HC2 := HC3
    clear HC3
    obtain ⟨N, hNe⟩ : ∃ N : Nat, (N : Int) = 200 + z := ⟨(200 + z).toNat, by omega⟩
    have hN : N ≤ 201 := by omega
    have HNE : Hid ((N : Int) = 200 + z) := hNe
    clear hNe
    go_wp2
    rw [← HNE.out]
    clear HNE hq0 hq2
    go_loopw [3, 5] (fun v i wr => ∃ (ts : List ByteArray), ts.length ≤ N ∧ i = .int .i64 (ts.length : Nat) ∧ sumS ts ≤ 3 * ts.length ∧ wr.ownsRow w.heap.size 9 1 v ts.length (strV ts) ∧ Cur B wr cb a len cap ∧ w.grownBy wr (some cb)) (fun _ i _ => N - (intOf i).toNat)
    case atStart => exact ⟨[], Nat.zero_le _, rfl, Nat.le_refl _, HW.out, HC2.out.1, HC2.out.2⟩
    case round =>
      obtain ⟨ts, hl, rfl, hsum, hown, hcur, hgr⟩ := hrel
      have HCr : Hid (Cur B wr cb a len cap) := hcur
      have HGr : Hid (w.grownBy wr (some cb)) := hgr
      have hszr := hgr.size
      clear hcur hgr HW HC2
      by_cases hlt : ts.length < N
      · go_wp2_with fail
        refine (drawBelow B cb a len cap _ 4 HCr.out (by omega)).mono ?_
        rintro e w3 ⟨q, rfl, hq0, hq1, _, hC3, hg3⟩
        have hq2 := hq1 (by omega)
        obtain ⟨m, rfl⟩ := Int.eq_ofNat_of_zero_le hq0
        have hown3 := hown.kept hg3 (.inr (fun h => by have := (hown.lt cb h).1; omega))
        have HC3 : Hid (Cur B w3 cb a len cap ∧ w.grownBy w3 (some cb)) := ⟨hC3, grown_trans HGr.out hg3⟩
        clear hC3 hg3 hq1 hown HCr HGr
        go_wp2_with fail
        refine (drawBytes B cb a len cap _ m HC3.out.1 (by omega)).mono ?_
        rintro e w4 ⟨t, rfl, ht, hC4, hg4⟩
        have hown4 := hown3.kept hg4 (.inr (fun h => by have := (hown3.lt cb h).1; omega))
        have HC4 : Hid (Cur B w4 cb a len cap ∧ w.grownBy w4 (some cb)) := ⟨hC4, grown_trans HC3.out.2 hg4⟩
        have hsz4 : w.heap.size ≤ w4.heap.size := HC4.out.2.size
        have ht3 : t.size ≤ 3 := by omega
        clear hC4 hg4 hown3 HC3 ht
        go_wp2_with (at_builtin; refine wpList_append_own _ rfl _ _ 33 rfl w.heap.size 9 i0 (.string ⟨#[]⟩) 1 16 Tryd.underlying33 hi hz0 hz1 hz2 rfl (by decide) _ _ _ rfl (hown4.alloc _) ⟨w4.heap.size, 0, none⟩ 1 1 [.string t] rfl rfl (cell_one_new _ _ _) ?c2 ?c3 ?c4 ?c5 ?_)
        case c2 => intro u hu; simp at hu; subst hu; rfl
        case c3 => unfold maxLen; omega
        case c4 => omega
        case c5 => simp; omega
        intro v' w5 hown' hgrow _
        have R1 : w5.ownsRow w.heap.size 9 1 v' (ts ++ [t]).length (strV (ts ++ [t])) := by simpa [strV] using hown'
        have hblk : ∀ k, k < w.heap.size → w5.heap[k]? = w4.heap[k]? := fun k hk =>
          (hgrow.block k (by simp; omega) (fun e => by have := (hown4.lt k e.symm).1; omega)).trans (Below.heap_alloc w4 _ k (by omega))
        have hle5 : w4.heap.size ≤ w5.heap.size := by have := hgrow.size; simp at this; omega
        have R3 : w.grownBy w5 (some cb) := ⟨hgrow.os.trans HC4.out.2.os, hgrow.tape.trans HC4.out.2.tape, hgrow.output.trans HC4.out.2.output, Nat.le_trans hsz4 hle5, fun k hk hr => (hblk k hk).trans (HC4.out.2.block k hk hr)⟩
        have R2 : Cur B w5 cb a len cap := HC4.out.1.kept ⟨hgrow.os, hgrow.tape, hgrow.output, hle5, fun k hk => hblk k (by have := HC4.out.1.here; omega)⟩ (hblk cb hlt0)
        have R4 : sumS (ts ++ [t]) ≤ 3 * (ts ++ [t]).length := by rw [sumS_append]; simp [sumS]; omega
        clear hown' hgrow hown4 HC4 hblk hle5 hsz4
        go_wp2
        go_roundw
        case rel => exact ⟨ts ++ [t], by simp; omega, by simp, R4, R1, R2, R3⟩
        case measure => simp [intOf]; omega
      · go_wp2
        go_ret
        exact ⟨_, ts, rfl, by omega, by omega, hown, HCr.out, HGr.out⟩

theorem texts_of_own {w : World} {B : Nat} {v : Value} {ts : List ByteArray} (h : w.ownsRow B 9 1 v ts.length (strV ts)) : Texts w v ts := by
  rcases h.2 with ⟨rfl, h0⟩ | ⟨g, cap, cur, hv, _⟩
  · exact .inl ⟨List.length_eq_zero_iff.1 h0, _, _, rfl⟩
  · subst hv; exact Texts.own h

set_option maxHeartbeats 400000 in
set_option maxRecDepth 100000 in
theorem drawPutTexts (a : Option Addr) (len cap : Nat) (w : World) (hA : CodeArg w a len) :
    Calls Tryd.prog 22 #[.slice a len cap] w fun e w' => ∃ (v : Value) (ts : List ByteArray), e = .returned v ∧ ts.length ≤ 201 ∧ sumS ts ≤ 1000 ∧ Texts w' v ts ∧ Below w.heap.size w w' := by
  have HA : Hid (CodeArg w a len) := hA
  clear hA
  go_enter Tryd.func22, Tryd.ntmps22
  go_wp2_with fail
  refine (drawNew a len cap _ HA.out.low HA.out.code HA.out.size).mono ?_
  rintro e w1 ⟨rfl, hC1, hb1⟩
  have HC1 : Hid (Cur w.heap.size w1 w.heap.size a len cap ∧ Below w.heap.size w w1) := ⟨hC1, hb1⟩
  clear hC1 hb1
  go_wp2_with fail
  refine (drawTexts w.heap.size w.heap.size a len cap _ HC1.out.1).mono ?_
  rintro e w2 ⟨v, ts, rfl, hl, hs, ho, hC2, hg2⟩
  have HB : Hid (Texts w2 v ts ∧ Below w.heap.size w w2) := ⟨texts_of_own ho, HC1.out.2.trans (HC1.out.1.below hg2)⟩
  clear ho hC2 hg2 HC1
  go_wp2
  go_ret
  exact ⟨v, ts, rfl, hl, hs, HB.out.1, HB.out.2⟩

set_option maxHeartbeats 400000 in
set_option maxRecDepth 100000 in
theorem drawKey (a : Option Addr) (len cap : Nat) (w : World) (hA : CodeArg w a len) :
    Calls Tryd.prog 27 #[.slice a len cap] w fun e w' => ∃ s : ByteArray, e = .returned (.string s) ∧ s.size ≤ 1000 ∧ Below w.heap.size w w' := by
  have HA : Hid (CodeArg w a len) := hA
  clear hA
  go_enter Tryd.func27, Tryd.ntmps27
  go_wp2_with fail
  refine (drawNew a len cap _ HA.out.low HA.out.code HA.out.size).mono ?_
  rintro e w1 ⟨rfl, hC1, hb1⟩
  have HC1 : Hid (Cur w.heap.size w1 w.heap.size a len cap ∧ Below w.heap.size w w1) := ⟨hC1, hb1⟩
  clear hC1 hb1
  go_wp2_with fail
  refine (drawBelow w.heap.size w.heap.size a len cap _ 20 HC1.out.1 (by omega)).mono ?_
  rintro e w5 ⟨y, rfl, hy0, hy1, _, hC5, hg5⟩
  have HC5 : Hid (Cur w.heap.size w5 w.heap.size a len cap ∧ Below w.heap.size w w5) := ⟨hC5, HC1.out.2.trans (HC1.out.1.below hg5)⟩
  have hy2 := hy1 (by omega)
  obtain ⟨m, rfl⟩ := Int.eq_ofNat_of_zero_le hy0
  clear hC5 hg5 HC1 hy1
  go_wp2_with fail
  refine (drawBytes w.heap.size w.heap.size a len cap _ m HC5.out.1 (by omega)).mono ?_
  rintro e w6 ⟨t, rfl, ht, hC6, hg6⟩
  have HT : Hid (t.size ≤ 1000 ∧ Below w.heap.size w w6) := ⟨by omega, HC5.out.2.trans (HC5.out.1.below hg6)⟩
  clear hC6 hg6 HC5 ht
  go_wp2
  go_ret
  exact ⟨_, rfl, HT.out.1, HT.out.2⟩

set_option maxHeartbeats 400000 in
set_option maxRecDepth 100000 in
theorem drawSpoil (B cb : Nat) (a : Option Addr) (len cap : Nat) (w : World) (s : ByteArray) (hC : Cur B w cb a len cap) (hs : s.size ≤ 10000) :
    Calls Tryd.prog 55 #[.pointer (some ⟨cb, 0, none⟩), .string s] w fun e w' => ∃ s' : ByteArray, e = .returned (.string s') ∧ s'.size ≤ 30000 ∧ Cur B w' cb a len cap ∧ w.grownBy w' (some cb) := by
  have HC : Hid (Cur B w cb a len cap) := hC
  clear hC
  go_enter Tryd.func55, Tryd.ntmps55
  go_wp2_with fail
  refine (drawBelow B cb a len cap _ _ HC.out (by omega)).mono ?_
  rintro e w1 ⟨y, rfl, hy0, hy1, _, hC1, hg1⟩
  have hy2 := hy1 (by omega)
  have HC1 : Hid (Cur B w1 cb a len cap ∧ w.grownBy w1 (some cb)) := ⟨hC1, hg1⟩
  clear hC1 hg1 hy1 HC
  obtain ⟨i, rfl⟩ := Int.eq_ofNat_of_zero_le hy0
  have hil : i ≤ s.size := by omega
  clear hy0 hy2
  go_wp2_with fail
  refine (drawBelow B cb a len cap _ 8 HC1.out.1 (by omega)).mono ?_
  rintro e w2 ⟨z, rfl, hz0, hz1, _, hC2, hg2⟩
  have HC2 : Hid (Cur B w2 cb a len cap ∧ w.grownBy w2 (some cb)) := ⟨hC2, grown_trans HC1.out.2 hg2⟩
  clear hC2 hg2 hz1 HC1
  have hp : ∀ wx : World, (Instr.slice 9 (.string s) none (some (.int .i64 (i : Int))) none).run Tryd.prog wx = .ok (.string (s.extract 0 i)) wx := fun wx => by
    have := run_slice_string_to_if (P := Tryd.prog) wx 9 s .i64 (i : Int) Tryd.underlying9
    rw [if_pos ⟨by omega, by omega⟩, Int.toNat_natCast] at this
    exact this
  have hq : ∀ wx : World, (Instr.slice 9 (.string s) (some (.int .i64 (i : Int))) none none).run Tryd.prog wx = .ok (.string (s.extract i s.size)) wx := fun wx => by
    have := run_slice_string_from_if (P := Tryd.prog) wx 9 s .i64 (i : Int) Tryd.underlying9
    rw [if_pos ⟨by omega, by omega⟩, Int.toNat_natCast] at this
    exact this
  have hps : (s.extract 0 i).size ≤ 10000 := by simp; omega
  have hqs : (s.extract i s.size).size ≤ 10000 := by simp; omega
  generalize s.extract 0 i = P0 at *
  generalize s.extract i s.size = P1 at *
  by_cases h0 : z = 0
  · have hb0 : (z == 0) = true := by simp [h0]
    clear h0
    go_wp2
    go_ret
    exact ⟨_, rfl, by omega, HC2.out.1, HC2.out.2⟩
  · have hb0 : (z == 0) = false := by simp [h0]
    clear h0
    by_cases h1 : z = 1
    · have hb1 : (z == 1) = true := by simp [h1]
      clear h1
      go_wp2_with fail
      go_region_with (go_at_call 47; refine (drawBytes B cb a len cap _ 1 (HC2.out.1.drewN 1) (by omega)).mono ?_; rintro e w3 ⟨t, rfl, ht, hC3, hg3⟩)
      have HF : Hid ((P0 ++ t ++ P1).size ≤ 30000 ∧ Cur B w3 cb a len cap ∧ w.grownBy w3 (some cb)) := ⟨by rw [ByteArray.size_append, ByteArray.size_append]; omega, hC3, grown_trans HC2.out.2 (grown_trans (grown_drewN (World.grownBy.refl _ _) 1) hg3)⟩
      clear hC3 hg3 HC2
      go_wp2
      go_ret
      exact ⟨_, rfl, HF.out.1, HF.out.2.1, HF.out.2.2⟩
    · have hb1 : (z == 1) = false := by simp [h1]
      clear h1
      go_wp2
      go_ret
      exact ⟨_, rfl, by omega, HC2.out.1, HC2.out.2⟩

theorem putTs_size (ts : List ByteArray) (hl : ts.length ≤ 201) (hs : sumS ts ≤ 1000) : (putTs ts).size ≤ 3000 := by
  unfold putTs
  by_cases h : 200 < ts.length
  · rw [if_pos h]; exact Nat.zero_le _
  · rw [if_neg h]
    have h1 := catL_flat_le ts
    have h3 := numB_size ts.length
    have h4 : (catL (partsT ts)).length ≤ 3000 := by simp [partsT, catL]; omega
    simpa [ByteArray.size] using h4

set_option maxHeartbeats 400000 in
set_option maxRecDepth 100000 in
theorem drawGetTexts (a : Option Addr) (len cap : Nat) (w : World) (hA : CodeArg w a len) :
    Calls Tryd.prog 24 #[.slice a len cap] w fun e w' => ∃ s : ByteArray, e = .returned (.string s) ∧ s.size ≤ 30000 ∧ Below w.heap.size w w' := by
  have HA : Hid (CodeArg w a len) := hA
  clear hA
  go_enter Tryd.func24, Tryd.ntmps24
  go_wp2_with fail
  refine (drawNew a len cap _ HA.out.low HA.out.code HA.out.size).mono ?_
  rintro e w1 ⟨rfl, hC1, hb1⟩
  have HC1 : Hid (Cur w.heap.size w1 w.heap.size a len cap ∧ Below w.heap.size w w1) := ⟨hC1, hb1⟩
  clear hC1 hb1
  go_wp2_with fail
  refine (drawTexts w.heap.size w.heap.size a len cap _ HC1.out.1).mono ?_
  rintro e w2 ⟨v, ts, rfl, hl, hs, ho, hC2, hg2⟩
  have HC2 : Hid (Cur w.heap.size w2 w.heap.size a len cap ∧ Below w.heap.size w w2) := ⟨hC2, HC1.out.2.trans (HC1.out.1.below hg2)⟩
  have HT : Hid (Texts w2 v ts) := texts_of_own ho
  clear ho hC2 hg2 HC1
  go_wp2_with fail
  refine (specPutTexts v ts _ HT.out (by omega) (by omega)).mono ?_
  rintro e w3 ⟨rfl, hb3⟩
  have HC3 : Hid (Cur w.heap.size w3 w.heap.size a len cap ∧ Below w.heap.size w w3) := ⟨HC2.out.1.far hb3, HC2.out.2.trans (hb3.mono HC2.out.2.size)⟩
  have hps := putTs_size ts hl hs
  generalize putTs ts = S at *
  clear hb3 HC2 HT
  go_wp2_with fail
  refine (drawSpoil w.heap.size w.heap.size a len cap _ S HC3.out.1 (by omega)).mono ?_
  rintro e w4 ⟨u, rfl, hu, hC4, hg4⟩
  have HF : Hid (Below w.heap.size w w4) := HC3.out.2.trans (HC3.out.1.below hg4)
  clear hC4 hg4 HC3
  go_wp2
  go_ret
  exact ⟨_, rfl, hu, HF.out⟩

end Go.Proofs.YtfmfihgmpefknaaDoor

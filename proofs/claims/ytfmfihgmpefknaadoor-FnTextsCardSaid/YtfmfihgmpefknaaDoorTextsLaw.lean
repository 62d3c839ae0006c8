/-
  The walk of the law FnTexts.
-/
import Derived.Test.YtfmfihgmpefknaaDoorRoundT
import Derived.Test.YtfmfihgmpefknaaDoorDrawsB
import Derived.Test.YtfmfihgmpefknaaDoorSameW
import Derived.Test.YtfmfihgmpefknaaDoorKeyW
namespace Go.Proofs.YtfmfihgmpefknaaDoor
open Go.RowKit

theorem Hex.hf_length (f u : Nat) : (Hex.hf f u).length = f := by
  induction f generalizing u with
  | zero => rfl
  | succ f ih => rw [Hex.hf, List.length_append, ih]; rfl
theorem keyB_size (s : ByteArray) : (keyB s).size = 16 := by
  have := Hex.hf_length 16 (dig s.data.toList).toNat
  simpa [keyB, ByteArray.size] using this

theorem sumS_bT (ts : List ByteArray) : sumS ts ≤ (bTs ts).length := by
  induction ts with
  | nil => simp [sumS]
  | cons t r ih => simp [sumS, bTs, bT_length]; omega

theorem texts_empty : (⟨#[]⟩ : ByteArray).toList.isEmpty = true := by rw [ByteArray.toList_eq]; rfl

theorem putTs_many (ts : List ByteArray) (h : 200 < ts.length) : (putTs ts).toList.isEmpty = true := by
  rw [show putTs ts = ⟨#[]⟩ from if_pos h]; exact texts_empty
theorem putTs_few (ts : List ByteArray) (h : ¬ 200 < ts.length) (ht : ∀ t ∈ ts, t.size ≤ 10000000) : (putTs ts).toList.isEmpty = false ∧ getTs (putTs ts) = (ts, true) ∧ getTs (putTs ts ++ ⟨#[120]⟩) = ([], false) := by
  refine ⟨list_some ?_, getTs_put ts (by omega) ht, getTs_more ts (by omega) ht⟩
  have hb := bytes_putTs ts (by omega) (fun t h => by have := ht t h; omega)
  have hl := congrArg List.length hb
  rw [bytesN_length] at hl
  have := (Plain.encF_length 4 ts.length).1
  simp at hl
  omega
theorem sumS_all (ts : List ByteArray) (n : Nat) (h : sumS ts ≤ n) : ∀ t ∈ ts, t.size ≤ n := by
  intro t ht
  obtain ⟨j, hj, rfl⟩ := List.getElem_of_mem ht
  exact Nat.le_trans (sumS_mem ts j hj) h

theorem getTsL_short (s : ByteArray) (n : Nat) (a : Int) (y : List ByteArray × Int) (h : getTsL s n a = some y) : y.1.length = n := by
  induction n generalizing a y with
  | zero => simp [getTsL] at h; rw [← h]; rfl
  | succ n ih =>
    rw [getTsL] at h
    by_cases hp : (getTI s a).2 < 0
    · rw [if_pos hp] at h; simp at h
    · rw [if_neg hp] at h
      simp only [Option.map_eq_some_iff] at h
      obtain ⟨z, hz, he⟩ := h
      have := ih _ z hz
      rw [← he]
      simp [this]

theorem getTs_short (s : ByteArray) : (getTs s).1.length ≤ 200 := by
  unfold getTs
  by_cases h : (getNI s 0).2 < 0 ∨ 200 < (getNI s 0).1
  · rw [if_pos h]; simp
  · rw [if_neg h]
    cases hy : getTsL s (getNI s 0).1.toNat (getNI s 0).2 with
    | none => simp
    | some y =>
      have := getTsL_short s _ _ y hy
      simp only
      by_cases he : y.2 = (s.size : Int)
      · rw [if_pos he]; simp only; omega
      · rw [if_neg he]; simp

theorem textsBig (a : Option Addr) (len cap : Nat) (w : World) :
    Calls Tryd.prog 6 #[.slice a len cap] w fun e w' => e = .returned (.bool (decide ((1048576 : Int) < len))) ∧ w = w' := by
  go_enter Tryd.func6, Tryd.ntmps6
  go_wp2
  go_ret
  exact ⟨rfl, rfl⟩

set_option maxHeartbeats 2000000 in
set_option maxRecDepth 100000 in
theorem textsWalk (a : Option Addr) (len cap : Nat) (w : World) (hA : CodeArg w a len) (hc : w.cell? ⟨5, 15, none⟩ = some (.int .u8 4)) :
    Calls Tryd.prog 4 #[.slice a len cap] w fun e w' => e = .returned (.bool true) ∧ Below w.heap.size w w' := by
  have HA : Hid (CodeArg w a len) := hA
  have hgl : 5 < w.heap.size := World.block_lt_of_cell? w ⟨5, 15, none⟩ hc
  have HCell : Hid (∀ wx : World, Below w.heap.size w wx → wx.cell? ⟨5, 15, none⟩ = some (.int .u8 4)) := fun wx hb => (hb.cell (p := ⟨5, 15, none⟩) hgl).trans hc
  have hbig : decide ((1048576 : Int) < len) = false := by have := hA.size; simp; omega
  clear hA hc hgl
  go_enter Tryd.func4, Tryd.ntmps4
  go_wp2_with fail
  refine (textsBig a len cap _).mono ?_
  rintro e w0 ⟨rfl, rfl⟩
  rw [hbig]
  clear hbig
  go_wp2_with fail
  refine (drawPutTexts a len cap _ HA.out).mono ?_
  rintro e w1 ⟨v1, ts, rfl, hl, hs, hT1, hb1⟩
  obtain ⟨a1, cap1, hv1⟩ : ∃ a1 cap1, v1 = .slice a1 ts.length cap1 := by
    rcases hT1 with ⟨h, a1, cap1, e⟩ | ⟨b, off, cap1, e, _⟩
    · exact ⟨a1, cap1, by rw [h, e]; rfl⟩
    · exact ⟨_, cap1, e⟩
  subst hv1
  have HB1 : Hid (Below w.heap.size w w1 ∧ Texts w1 (.slice a1 ts.length cap1) ts) := ⟨hb1, hT1⟩
  clear hb1 hT1
  have hS := putTs_size ts hl hs
  have hse := putTs_many ts
  have hsn := fun h => putTs_few ts h (sumS_all ts 10000000 (by omega))
  have HPI : Hid (∀ wx : World, Texts wx (.slice a1 ts.length cap1) ts → Calls Tryd.prog 23 #[.slice a1 ts.length cap1] wx fun e w' => e = .returned (.string (putTs ts)) ∧ Below wx.heap.size wx w') := fun wx h => implPutTexts _ ts wx h (by omega) (by omega)
  have HPS : Hid (∀ wx : World, Texts wx (.slice a1 ts.length cap1) ts → Calls Tryd.prog 28 #[.slice a1 ts.length cap1] wx fun e w' => e = .returned (.string (putTs ts)) ∧ Below wx.heap.size wx w') := fun wx h => specPutTexts _ ts wx h (by omega) (by omega)
  generalize putTs ts = S at *
  have HSE : Hid (200 < ts.length → S.toList.isEmpty = true) := hse
  have HSN : Hid (¬ 200 < ts.length → S.toList.isEmpty = false ∧ getTs S = (ts, true) ∧ getTs (S ++ ⟨#[120]⟩) = ([], false)) := hsn
  clear hse hsn hs
  go_wp2_with fail
  refine (HPI.out _ HB1.out.2).mono ?_
  rintro e w2 ⟨rfl, hb2⟩
  have HB2 : Hid (Below w.heap.size w w2 ∧ Texts w2 (.slice a1 ts.length cap1) ts) := ⟨HB1.out.1.trans (hb2.mono HB1.out.1.size), HB1.out.2.below hb2⟩
  clear hb2 HB1 HPI
  go_wp2_with fail
  refine (drawGetTexts a len cap _ (HA.out.below HB2.out.1)).mono ?_
  rintro e w3 ⟨u, rfl, hu, hb3⟩
  have HB3 : Hid (Below w.heap.size w w3 ∧ Texts w3 (.slice a1 ts.length cap1) ts) := ⟨HB2.out.1.trans (hb3.mono HB2.out.1.size), HB2.out.2.below hb3⟩
  clear hb3 HB2
  have HX := getTs_back u
  have hxl := getTs_short u
  have HGI : Hid (∀ wx : World, Calls Tryd.prog 25 #[.string u] wx fun e w' => ∃ v, e = .returned (.tuple #[v, .bool (getTs u).2]) ∧ w'.ownsRow wx.heap.size 9 1 v (getTs u).1.length (strV (getTs u).1) ∧ Below wx.heap.size wx w') := fun wx => implGetTexts u wx (by omega)
  have HGS : Hid (∀ wx : World, Calls Tryd.prog 26 #[.string u] wx fun e w' => ∃ v, e = .returned (.tuple #[v, .bool (getTs u).2]) ∧ w'.ownsRow wx.heap.size 9 1 v (getTs u).1.length (strV (getTs u).1) ∧ Below wx.heap.size wx w') := fun wx => specGetTexts u wx (by omega)
  generalize getTs u = r at *
  obtain ⟨xs, ok⟩ := r
  simp only at HX hxl HGI HGS
  have HXX : Hid (ok = true → putTs xs = u ∧ xs.length ≤ 200 ∧ ∀ t ∈ xs, t.size ≤ 10000000) := HX
  clear HX
  go_wp2_with fail
  refine (HGI.out _).mono ?_
  rintro e w4 ⟨vx, rfl, ho4, hb4⟩
  have HB4 : Hid (Below w.heap.size w w4 ∧ Texts w4 (.slice a1 ts.length cap1) ts ∧ Texts w4 vx xs) := ⟨HB3.out.1.trans (hb4.mono HB3.out.1.size), HB3.out.2.below hb4, texts_of_own ho4⟩
  clear hb4 ho4 HB3 HGI
  go_wp2_with fail
  refine (HGS.out _).mono ?_
  rintro e w5 ⟨vy, rfl, ho5, hb5⟩
  have HB5 : Hid (Below w.heap.size w w5 ∧ Texts w5 (.slice a1 ts.length cap1) ts ∧ Texts w5 vx xs ∧ Texts w5 vy xs) := ⟨HB4.out.1.trans (hb5.mono HB4.out.1.size), HB4.out.2.1.below hb5, HB4.out.2.2.below hb5, texts_of_own ho5⟩
  clear hb5 ho5 HB4 HGS
  go_wp2_with fail
  refine (drawKey a len cap _ (HA.out.below HB5.out.1)).mono ?_
  rintro e w6 ⟨kk, rfl, hkk, hb6⟩
  have HB6 : Hid (Below w.heap.size w w6 ∧ Texts w6 (.slice a1 ts.length cap1) ts ∧ Texts w6 vx xs ∧ Texts w6 vy xs) := ⟨HB5.out.1.trans (hb6.mono HB5.out.1.size), HB5.out.2.1.below hb6, HB5.out.2.2.1.below hb6, HB5.out.2.2.2.below hb6⟩
  clear hb6 HB5
  have hks := keyB_size kk
  have HKI : Hid (∀ wx : World, wx.cell? ⟨5, 15, none⟩ = some (.int .u8 4) → Calls Tryd.prog 32 #[.string kk] wx fun e w' => e = .returned (.string (keyB kk)) ∧ Below wx.heap.size wx w') := fun wx h => implKey kk wx (by omega) h
  have HKS : Hid (∀ wx : World, Calls Tryd.prog 33 #[.string kk] wx fun e w' => e = .returned (.string (keyB kk)) ∧ wx = w') := fun wx => specKey kk wx (by omega)
  generalize keyB kk = KB at *
  have hks2 : ((KB.size : Int) != 16) = false := by rw [hks]; rfl
  clear hks
  go_wp2_with fail
  refine (HPS.out _ HB6.out.2.1).mono ?_
  rintro e w7 ⟨rfl, hb7⟩
  have HB7 : Hid (Below w.heap.size w w7 ∧ Texts w7 (.slice a1 ts.length cap1) ts ∧ Texts w7 vx xs ∧ Texts w7 vy xs) := ⟨HB6.out.1.trans (hb7.mono HB6.out.1.size), HB6.out.2.1.below hb7, HB6.out.2.2.1.below hb7, HB6.out.2.2.2.below hb7⟩
  clear hb7 HB6 HPS
  go_wp2_with fail
  refine (lawsSame vx vy xs _ HB7.out.2.2.1 HB7.out.2.2.2 (by omega)).mono ?_
  rintro e w8 ⟨rfl, hb8⟩
  have HB8 : Hid (Below w.heap.size w w8 ∧ Texts w8 (.slice a1 ts.length cap1) ts ∧ Texts w8 vx xs) := ⟨HB7.out.1.trans (hb8.mono HB7.out.1.size), HB7.out.2.1.below hb8, HB7.out.2.2.1.below hb8⟩
  clear hb8 HB7
  cases ok
  · have HB9 : Hid (Below w.heap.size w w8) := HB8.out.1
    have T9 : Hid (Texts w8 (.slice a1 ts.length cap1) ts) := HB8.out.2.1
    clear HB8 HXX
    go_wp2_with fail
    refine (implDigest kk _ (by omega)).mono ?_
    rintro e w10 ⟨rfl, rfl⟩
    go_wp2_with fail
    refine (specDigest kk _ (by omega)).mono ?_
    rintro e w10 ⟨rfl, rfl⟩
    go_wp2_with fail
    refine (HKI.out _ (HCell.out _ HB9.out)).mono ?_
    rintro e w10 ⟨rfl, hb10⟩
    have HB10 : Hid (Below w.heap.size w w10 ∧ Texts w10 (.slice a1 ts.length cap1) ts) := ⟨HB9.out.trans (hb10.mono HB9.out.size), T9.out.below hb10⟩
    clear hb10 HB9 T9
    go_wp2_with fail
    refine (HKS.out _).mono ?_
    rintro e w11 ⟨rfl, rfl⟩
    go_wp2_with fail
    refine (HKI.out _ (HCell.out _ HB10.out.1)).mono ?_
    rintro e w11 ⟨rfl, hb11⟩
    have HB11 : Hid (Below w.heap.size w w11 ∧ Texts w11 (.slice a1 ts.length cap1) ts) := ⟨HB10.out.1.trans (hb11.mono HB10.out.1.size), HB10.out.2.below hb11⟩
    clear hb11 HB10
    by_cases h200 : 200 < ts.length
    · have hSe := HSE.out h200
      have hlt : (200 : Int) < ts.length := by omega
      go_wp2
      go_ret
      exact ⟨rfl, HB11.out.1⟩
    · obtain ⟨hSe, hg1, hg2⟩ := HSN.out h200
      have HG1 : Hid (∀ wx : World, Calls Tryd.prog 25 #[.string S] wx fun e w' => ∃ v, e = .returned (.tuple #[v, .bool true]) ∧ w'.ownsRow wx.heap.size 9 1 v ts.length (strV ts) ∧ Below wx.heap.size wx w') := fun wx => by
        have := implGetTexts S wx (by omega)
        rw [hg1] at this
        exact this
      have HG2 : Hid (∀ wx : World, Calls Tryd.prog 25 #[.string (S ++ ⟨#[120]⟩)] wx fun e w' => ∃ v, e = .returned (.tuple #[v, .bool false]) ∧ w'.ownsRow wx.heap.size 9 1 v ([] : List ByteArray).length (strV []) ∧ Below wx.heap.size wx w') := fun wx => by
        have := implGetTexts (S ++ ⟨#[120]⟩) wx (by rw [ByteArray.size_append]; have : (⟨#[120]⟩ : ByteArray).size = 1 := rfl; omega)
        rw [hg2] at this
        exact this
      clear hg1 hg2
      go_wp2_with fail
      refine (HG1.out _).mono ?_
      rintro e w12 ⟨vb, rfl, ho12, hb12⟩
      have HB12 : Hid (Below w.heap.size w w12 ∧ Texts w12 (.slice a1 ts.length cap1) ts ∧ Texts w12 vb ts) := ⟨HB11.out.1.trans (hb12.mono HB11.out.1.size), HB11.out.2.below hb12, texts_of_own ho12⟩
      clear ho12 hb12 HB11 HG1
      go_wp2_with fail
      refine (HG2.out _).mono ?_
      rintro e w13 ⟨vm, rfl, ho13, hb13⟩
      have HB13 : Hid (Below w.heap.size w w13 ∧ Texts w13 (.slice a1 ts.length cap1) ts ∧ Texts w13 vb ts) := ⟨HB12.out.1.trans (hb13.mono HB12.out.1.size), HB12.out.2.1.below hb13, HB12.out.2.2.below hb13⟩
      clear ho13 hb13 HB12 HG2
      go_wp2_with fail
      refine (lawsSame vb _ ts _ HB13.out.2.2 HB13.out.2.1 (by omega)).mono ?_
      rintro e w14 ⟨rfl, hb14⟩
      have HFin : Hid (Below w.heap.size w w14) := HB13.out.1.trans (hb14.mono HB13.out.1.size)
      clear hb14 HB13
      go_wp2
      go_ret
      exact ⟨rfl, HFin.out⟩

  · obtain ⟨hx1, hx2, hx3⟩ := HXX.out rfl
    have hxs : sumS xs ≤ 30000 := by
      have hb := congrArg List.length (bytes_putTs xs hx2 (fun t h => by have := hx3 t h; omega))
      rw [bytesN_length, hx1, List.length_append] at hb
      have := sumS_bT xs
      omega
    have HPX : Hid (Calls Tryd.prog 23 #[vx] w8 fun e w' => e = .returned (.string u) ∧ Below w8.heap.size w8 w') := by
      have := implPutTexts vx xs w8 HB8.out.2.2 (by omega) (by omega)
      rw [hx1] at this
      exact this
    clear hx1 hx2 hx3 hxs HXX
    go_wp2_with fail
    refine HPX.out.mono ?_
    rintro e w9 ⟨rfl, hb9⟩
    have HB9 : Hid (Below w.heap.size w w9) := HB8.out.1.trans (hb9.mono HB8.out.1.size)
    have T9 : Hid (Texts w9 (.slice a1 ts.length cap1) ts) := HB8.out.2.1.below hb9
    clear hb9 HB8 HPX
    go_wp2_with fail
    refine (implDigest kk _ (by omega)).mono ?_
    rintro e w10 ⟨rfl, rfl⟩
    go_wp2_with fail
    refine (specDigest kk _ (by omega)).mono ?_
    rintro e w10 ⟨rfl, rfl⟩
    go_wp2_with fail
    refine (HKI.out _ (HCell.out _ HB9.out)).mono ?_
    rintro e w10 ⟨rfl, hb10⟩
    have HB10 : Hid (Below w.heap.size w w10 ∧ Texts w10 (.slice a1 ts.length cap1) ts) := ⟨HB9.out.trans (hb10.mono HB9.out.size), T9.out.below hb10⟩
    clear hb10 HB9 T9
    go_wp2_with fail
    refine (HKS.out _).mono ?_
    rintro e w11 ⟨rfl, rfl⟩
    go_wp2_with fail
    refine (HKI.out _ (HCell.out _ HB10.out.1)).mono ?_
    rintro e w11 ⟨rfl, hb11⟩
    have HB11 : Hid (Below w.heap.size w w11 ∧ Texts w11 (.slice a1 ts.length cap1) ts) := ⟨HB10.out.1.trans (hb11.mono HB10.out.1.size), HB10.out.2.below hb11⟩
    clear hb11 HB10
    by_cases h200 : 200 < ts.length
    · have hSe := HSE.out h200
      have hlt : (200 : Int) < ts.length := by omega
      go_wp2
      go_ret
      exact ⟨rfl, HB11.out.1⟩
    · obtain ⟨hSe, hg1, hg2⟩ := HSN.out h200
      have HG1 : Hid (∀ wx : World, Calls Tryd.prog 25 #[.string S] wx fun e w' => ∃ v, e = .returned (.tuple #[v, .bool true]) ∧ w'.ownsRow wx.heap.size 9 1 v ts.length (strV ts) ∧ Below wx.heap.size wx w') := fun wx => by
        have := implGetTexts S wx (by omega)
        rw [hg1] at this
        exact this
      have HG2 : Hid (∀ wx : World, Calls Tryd.prog 25 #[.string (S ++ ⟨#[120]⟩)] wx fun e w' => ∃ v, e = .returned (.tuple #[v, .bool false]) ∧ w'.ownsRow wx.heap.size 9 1 v ([] : List ByteArray).length (strV []) ∧ Below wx.heap.size wx w') := fun wx => by
        have := implGetTexts (S ++ ⟨#[120]⟩) wx (by rw [ByteArray.size_append]; have : (⟨#[120]⟩ : ByteArray).size = 1 := rfl; omega)
        rw [hg2] at this
        exact this
      clear hg1 hg2
      go_wp2_with fail
      refine (HG1.out _).mono ?_
      rintro e w12 ⟨vb, rfl, ho12, hb12⟩
      have HB12 : Hid (Below w.heap.size w w12 ∧ Texts w12 (.slice a1 ts.length cap1) ts ∧ Texts w12 vb ts) := ⟨HB11.out.1.trans (hb12.mono HB11.out.1.size), HB11.out.2.below hb12, texts_of_own ho12⟩
      clear ho12 hb12 HB11 HG1
      go_wp2_with fail
      refine (HG2.out _).mono ?_
      rintro e w13 ⟨vm, rfl, ho13, hb13⟩
      have HB13 : Hid (Below w.heap.size w w13 ∧ Texts w13 (.slice a1 ts.length cap1) ts ∧ Texts w13 vb ts) := ⟨HB12.out.1.trans (hb13.mono HB12.out.1.size), HB12.out.2.1.below hb13, HB12.out.2.2.below hb13⟩
      clear ho13 hb13 HB12 HG2
      go_wp2_with fail
      refine (lawsSame vb _ ts _ HB13.out.2.2 HB13.out.2.1 (by omega)).mono ?_
      rintro e w14 ⟨rfl, hb14⟩
      have HFin : Hid (Below w.heap.size w w14) := HB13.out.1.trans (hb14.mono HB13.out.1.size)
      clear hb14 HB13
      go_wp2
      go_ret
      exact ⟨rfl, HFin.out⟩

end Go.Proofs.YtfmfihgmpefknaaDoor

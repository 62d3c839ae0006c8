/-
  The walks of (*impl.copier).ownTexts, whatever room there is, and of (*impl.copier).names: a list of texts, copied, and the texts told anew where there is room.
-/
import Derived.Test.YtfmfihgmpefknacOwT
import Derived.Test.YtfmfihgmpefknacCopyT
namespace Go.Proofs.Ytfmfihgmpefknac
open Go.RowKit Go.Sort

set_option maxHeartbeats 800000 in
theorem implTakesZ (cb : Nat) (room z : Int) (w : World) (hc : w.cell? ⟨cb, 0, none⟩ = some (.int .i64 room)) (hf : w.frozen? ⟨cb, 0, none⟩ = false) (hz0 : 0 ≤ z) (hz1 : z ≤ 8589934593) (h0 : 0 ≤ room) (hr : room ≤ 8589934592) :
    Calls Try.prog 32 #[.pointer (some ⟨cb, 0, none⟩), .int .i64 z] w fun e w' => (e = .returned (.bool true) ∧ w' = w.setCell ⟨cb, 0, none⟩ (.int .i64 (room - z))) ∨ (e = .returned (.bool false) ∧ w' = w) := by
  by_cases hn : room < z
  · go_enter Try.func32, Try.ntmps32
    go_wp2_with fail
    go_ret
    exact .inr ⟨rfl, rfl⟩
  · go_enter Try.func32, Try.ntmps32
    go_wp2_with fail
    go_ret
    exact .inl ⟨rfl, rfl⟩

set_option maxHeartbeats 1600000 in
set_option maxRecDepth 100000 in
theorem implOwnTextsAny (cb : Nat) (room : Int) (v : Value) (ps : List ((Nat × Nat) × ByteArray)) (w : World) (hp : PtrsAt w v ps) (hc : w.cell? ⟨cb, 0, none⟩ = some (.int .i64 room)) (hf : w.frozen? ⟨cb, 0, none⟩ = false) (hs : ∀ j (h : j < ps.length), ps[j].2.size ≤ 1048576) (h0 : 0 ≤ room) (hr : room ≤ 8589934592) (hl : ps.length ≤ 100000000) :
    Calls Try.prog 29 #[.pointer (some ⟨cb, 0, none⟩), v] w fun e w' => e = .returned (.tuple #[]) ∧ ∃ room' : Int, Below w.heap.size (w.setCell ⟨cb, 0, none⟩ (.int .i64 room')) w' := by
  have hself0 := setCell_self hc
  have HP2 : Hid (∀ z' : Int, PtrsAt (w.setCell ⟨cb, 0, none⟩ (.int .i64 z')) v ps) := fun z' => hp.num hc
  obtain ⟨a, cap, rfl, hel⟩ := hp
  have HEL : Hid (type_of% hel) := hel
  have HSZ : Hid (type_of% hs) := hs
  have HT : Hid (∀ z : Int, 0 ≤ z → z ≤ 8589934593 → Calls Try.prog 32 #[.pointer (some ⟨cb, 0, none⟩), .int .i64 z] w fun e w' => (e = .returned (.bool true) ∧ w' = w.setCell ⟨cb, 0, none⟩ (.int .i64 (room - z))) ∨ (e = .returned (.bool false) ∧ w' = w)) := fun z h1 h2 => implTakesZ cb room z w hc hf h1 h2 h0 hr
  clear hel hs hc hf
  go_enter Try.func29, Try.ntmps29
  go_wp2_with fail
  go_loop [4, 11] (fun z i => ∃ (k : Nat) (S : Int), k ≤ ps.length ∧ i = .int .i64 k ∧ z = .int .i64 S ∧ 0 ≤ S ∧ S ≤ 8589934593) (fun _ i => ps.length - (intOf i).toNat)
  case atStart => exact ⟨0, 0, Nat.zero_le _, rfl, rfl, by omega, by omega⟩
  case round =>
    obtain ⟨k, S, hk, rfl, rfl, hS0, hS1⟩ := hrel
    by_cases hlt : k < ps.length
    · obtain ⟨b, off, rfl, q1, q2, q3⟩ := HEL.out k hlt
      have hx := HSZ.out k hlt
      clear HEL HSZ HP2 HT
      generalize ps[k].2 = x at *
      generalize ps[k].1.1 = pb at *
      generalize ps[k].1.2 = po at *
      have hk0 : (0 : Int) ≤ k := by omega
      have hk1 : (k : Int) < ps.length := by omega
      have hx2 : S + (x.size : Int) ≤ 9000000000 := by omega
      by_cases hmin : (8589934593 : Int) < S + (x.size : Int)
      · go_wp2_with fail
        go_round
        case rel => exact ⟨k + 1, 8589934593, by omega, by go_num, by first | rfl | (simp only [Value.int.injEq, true_and]; omega), by omega, by omega⟩
        case measure => simp [intOf]; omega
      · go_wp2_with fail
        go_round
        case rel => exact ⟨k + 1, S + x.size, by omega, by go_num, by first | rfl | (simp only [Value.int.injEq, true_and]; omega), by omega, by omega⟩
        case measure => simp [intOf]; omega
    · clear HEL
      go_wp2_with fail
      refine (HT.out S hS0 hS1).mono ?_
      rintro e w2 (⟨rfl, hw2⟩ | ⟨rfl, hw2⟩)
      · obtain ⟨a', cap', e', hel2⟩ := HP2.out (room - S)
        simp only [Value.slice.injEq, true_and] at e'
        obtain ⟨rfl, rfl⟩ := e'
        have hzc : (w.setCell ⟨cb, 0, none⟩ (.int .i64 (room - S))).heap.size = w.heap.size := by simp
        have HG : Hid (∀ wx : World, Below w.heap.size (w.setCell ⟨cb, 0, none⟩ (.int .i64 (room - S))) wx → ∃ room' : Int, Below w.heap.size (w.setCell ⟨cb, 0, none⟩ (.int .i64 room')) wx) := fun wx h => ⟨room - S, h⟩
        rw [hw2]
        obtain ⟨WC, hWC⟩ : ∃ WC, WC = w.setCell ⟨cb, 0, none⟩ (.int .i64 (room - S)) := ⟨_, rfl⟩
        rw [← hWC] at hel2 hzc HG ⊢
        have HEL2 : Hid (type_of% hel2) := hel2
        clear hel2 hWC hw2 HT HP2 hself0
        go_wp2_with fail
        go_loopw [29] (fun i wr => ∃ k : Nat, k ≤ ps.length ∧ i = .int .i64 k ∧ Below w.heap.size WC wr) (fun i _ => ps.length - (intOf i).toNat)
        case atStart => exact ⟨0, Nat.zero_le _, rfl, Below.refl _ _⟩
        case round =>
          obtain ⟨k2, hk2, rfl, hbe⟩ := hrel
          by_cases hlt2 : k2 < ps.length
          · obtain ⟨b, off, rfl, q1, q2, q3⟩ := HEL2.out k2 hlt2
            have l1 := World.block_lt_of_cell? WC ⟨b, off + k2, none⟩ q1
            have l2 := World.block_lt_of_cell? WC ⟨ps[k2].1.1, ps[k2].1.2, none⟩ q2
            have hbe' : Below WC.heap.size WC wr := hbe.mono (Nat.le_of_eq hzc)
            have c1 := (hbe'.cell (p := ⟨b, off + k2, none⟩) l1).trans q1
            have c2 := (hbe'.cell (p := ⟨ps[k2].1.1, ps[k2].1.2, none⟩) l2).trans q2
            have hx := HSZ.out k2 hlt2
            have HCL : Hid (Calls Try.prog 33 #[.string ps[k2].2] wr fun e w' => e = .returned (.string ps[k2].2) ∧ Below wr.heap.size wr w') := stringsClone _ wr (by omega)
            have HAF : Hid (∀ wx : World, Below wr.heap.size wr wx → wx.cell? ⟨ps[k2].1.1, ps[k2].1.2, none⟩ = some (.string ps[k2].2) ∧ wx.frozen? ⟨ps[k2].1.1, ps[k2].1.2, none⟩ = false) := fun wx hx => by
              have hy : Below WC.heap.size WC wx := hbe'.trans (hx.mono hbe'.size)
              exact ⟨(hy.cell (p := ⟨ps[k2].1.1, ps[k2].1.2, none⟩) l2).trans q2, (hy.frozen (p := ⟨ps[k2].1.1, ps[k2].1.2, none⟩) l2).trans q3⟩
            clear q1 q2 q3 l1 l2 hbe' HEL2 HSZ hx HG
            generalize ps[k2].2 = x at *
            generalize ps[k2].1.1 = pb at *
            generalize ps[k2].1.2 = po at *
            have hk0 : (0 : Int) ≤ k2 := by omega
            have hk1 : (k2 : Int) < ps.length := by omega
            go_wp2_with fail
            refine HCL.out.mono ?_
            rintro e w5 ⟨rfl, hb5⟩
            obtain ⟨d1, d2⟩ := HAF.out w5 hb5
            have hself := setCell_self d1
            have hb6 : Below w.heap.size WC w5 := hbe.trans (hb5.mono (by rw [← hzc]; exact hbe.size))
            clear HCL HAF c1 c2 hb5
            go_wp2_with fail
            go_roundw
            case rel => exact ⟨k2 + 1, by omega, by go_num, by first | exact hb6 | (rw [hself]; exact hb6)⟩
            case measure => simp [intOf]; omega
          · clear HEL2 HSZ
            go_wp2_with fail
            go_end0
            exact ⟨rfl, HG.out _ hbe⟩
      · rw [hw2]
        have HG : Hid (∃ room' : Int, Below w.heap.size (w.setCell ⟨cb, 0, none⟩ (.int .i64 room')) w) := ⟨room, by rw [hself0]; exact Below.refl _ _⟩
        clear hw2 HT HP2 hself0 HSZ
        go_wp2_with fail
        refine bodyPost_ret (results_none rfl _ _ _) rfl ?_
        exact ⟨rfl, HG.out⟩

/-- the places of a row's texts -/
def rowPs (g : Nat) (ts : List ByteArray) : List ((Nat × Nat) × ByteArray) := (List.range ts.length).map fun j => ((g, j), ts.getD j ⟨#[]⟩)
theorem rowPs_length (g : Nat) (ts : List ByteArray) : (rowPs g ts).length = ts.length := by simp [rowPs]
theorem rowPs_at (g : Nat) (ts : List ByteArray) (j : Nat) (h : j < ts.length) : (rowPs g ts)[j]'(by rw [rowPs_length]; exact h) = ((g, j), ts[j]) := by
  simp [rowPs, List.getD_eq_getElem?_getD, h]
/-- these places as cells -/
def nmV (g k : Nat) : List Value := (List.range k).map fun j => Value.pointer (some ⟨g, j, none⟩)
theorem nmV_length (g k : Nat) : (nmV g k).length = k := by simp [nmV]
theorem nmV_more (g k : Nat) : nmV g (k + 1) = nmV g k ++ [.pointer (some ⟨g, k, none⟩)] := by simp [nmV, List.range_succ]
theorem nmV_at (g k j : Nat) (h : j < k) : (nmV g k)[j]? = some (.pointer (some ⟨g, j, none⟩)) := by simp [nmV, h]

theorem ownLowN {X Y : World} {B B' e z : Nat} {v : Value} {n : Nat} {xs : List Value} (h : X.ownsRow B e z v n xs) (hB : B' ≤ B) (hs : ∀ g, v.ownBlock = some g → Y.heap[g]? = X.heap[g]?) : Y.ownsRow B' e z v n xs := by
  refine ⟨h.1, ?_⟩
  rcases h.2 with q | ⟨g, cap, cur, hv, hg, hh, q⟩
  · exact .inl q
  · exact .inr ⟨g, cap, cur, hv, Nat.le_trans hB hg, (hs g (by rw [hv]; rfl)).trans hh, q⟩
theorem texts_ownN {w : World} {B : Nat} {v : Value} {ts : List ByteArray} (h : w.ownsRow B 9 1 v ts.length (strV ts)) : Texts w v ts := by
  rcases h.2 with ⟨e, h0⟩ | ⟨g, c, cur, e, _⟩
  · exact .inl ⟨List.length_eq_zero_iff.1 h0, _, _, e⟩
  · have h1 := h
    rw [e] at h1 ⊢
    exact Texts.own h1
theorem owns_only {w w' : World} {B e z n lo hi : Nat} {v : Value} {xs : List Value} (h : w.ownsRow B e z v n xs) (ho : Only lo hi w w') (hB : hi ≤ B) : w'.ownsRow B e z v n xs := by
  refine ⟨h.1, h.2.imp id ?_⟩
  rintro ⟨g, c, cur, e1, e2, e3, e4⟩
  exact ⟨g, c, cur, e1, e2, (ho.block g (Array.getElem?_eq_some_iff.1 e3).1 (.inr (by omega))).trans e3, e4⟩
theorem Try.infoPtrN : (Try.prog.info? 55).map (fun i => (i.zero, i.size, i.bytes)) = some (some (.pointer none), 1, 8) := by kernel_rfl

set_option maxHeartbeats 1600000 in
set_option maxRecDepth 100000 in
theorem implNamesC (cb : Nat) (room : Int) (y1 y2 y3 : Value) (v : Value) (ts : List ByteArray) (w : World) (hT : Texts w v ts) (hl : ts.length ≤ 1048577) (hs : ∀ x ∈ ts, x.size ≤ 1048576) (hcb : w.heap[cb]? = some (.cells #[.int .i64 room, y1, y2, y3] 53 (0, 0))) (h0 : 0 ≤ room) (hr : room ≤ 8589934592) :
    Calls Try.prog 24 #[.pointer (some ⟨cb, 0, none⟩), v] w fun e w' => ∃ (a : Option Addr) (c : Nat), e = .returned (.slice a ts.length c) ∧ w'.ownsRow w.heap.size 9 1 (.slice a ts.length c) ts.length (strV ts) ∧ ∃ room' : Int, Below w.heap.size (w.setCell ⟨cb, 0, none⟩ (.int .i64 room')) w' := by
  obtain ⟨i0, hi, hz0, hz1, hz2⟩ := info_parts Try.infoPtrN
  have hcl : cb < w.heap.size := (Array.getElem?_eq_some_iff.1 hcb).1
  have HCL := slClone v ts w hT hl
  have HC : Hid (type_of% HCL) := HCL
  have HSZ : Hid (type_of% hs) := hs
  obtain ⟨av, cv, rfl, _⟩ := textsOpen hT
  clear HCL hT hs
  go_enter Try.func24, Try.ntmps24
  go_wp2_with fail
  refine HC.out.mono ?_
  rintro e w1 ⟨a, c, rfl, ho1, hb1⟩
  have hle1 := hb1.size
  have hle1' : w.heap.size ≤ w.heap.size := Nat.le_refl _
  obtain ⟨g, hg⟩ : ∃ g, ts.length = 0 ∨ (a = some ⟨g, 0, none⟩ ∧ w.heap.size ≤ g ∧ g < w1.heap.size) := by
    rcases ho1.2 with ⟨_, h0⟩ | ⟨g, cap, cur, hv, hg, hh, _⟩
    · exact ⟨0, .inl h0⟩
    · simp only [Value.slice.injEq, true_and] at hv
      exact ⟨g, .inr ⟨hv.1, hg, (Array.getElem?_eq_some_iff.1 hh).1⟩⟩
  have HG : Hid (type_of% hg) := hg
  have HO1 : Hid (type_of% ho1) := ho1
  clear HC hg ho1
  go_wp2_with fail
  go_loopw [6, 12] (fun o i wr => ∃ k : Nat, k ≤ ts.length ∧ i = .int .i64 k ∧ wr.ownsRow w1.heap.size 55 1 o k (nmV g k) ∧ Below w1.heap.size w1 wr) (fun _ i _ => ts.length - (intOf i).toNat)
  case atStart => exact ⟨0, Nat.zero_le _, rfl, World.ownsRow_nil _ _ _ _, Below.refl _ _⟩
  case round =>
    obtain ⟨k, hk, rfl, ho, hbe⟩ := hrel
    obtain ⟨wo, rfl⟩ : ∃ wo, wo = wr := ⟨_, rfl⟩
    have hlew := hbe.size
    by_cases hlt : k < ts.length
    · have ha : a = some ⟨g, 0, none⟩ := by
        rcases HG.out with h | h
        · omega
        · exact h.1
      subst ha
      have HP : Hid (nmV g (k + 1) = nmV g k ++ [.pointer (some ⟨g, k, none⟩)]) := nmV_more g k
      have hk0 : (0 : Int) ≤ k := by omega
      have hk1 : (k : Int) < ts.length := by omega
      obtain ⟨az, capz, hv⟩ := own_sliceO ho
      subst hv
      have HO : Hid (type_of% ho) := ho
      have HOA : Hid (type_of% (ho.alloc (.cells #[.pointer (some ⟨g, k, none⟩)] 55))) := ho.alloc _
      clear ho HG HO1 HSZ
      go_wp2_with (at_builtin; refine wpList_append_own _ rfl _ _ 54 rfl w1.heap.size 55 i0 (.pointer none) 1 8 Try.underlying54 hi hz0 hz1 hz2 rfl (by decide) _ _ _ rfl HOA.out ⟨wo.heap.size, 0, none⟩ 1 1 [.pointer (some ⟨g, k, none⟩)] rfl rfl ?c1 ?c2 ?c3 ?c4 ?c5 ?_)
      case c1 =>
        intro j u hj
        match j, hj with
        | 0, hj => simp at hj; subst hj; exact cellNew 0 rfl
        | j + 1, hj => simp at hj
      case c2 => intro u hu; simp at hu; subst hu; rfl
      case c3 => unfold maxLen; omega
      case c4 => omega
      case c5 => simp; omega
      intro v' w4 hown' hgrow _
      have R1 : w4.ownsRow w1.heap.size 55 1 v' (k + 1) (nmV g (k + 1)) := by rw [HP.out]; exact hown'
      have R2 : Below w1.heap.size w1 w4 := (hbe.alloc hlew _).grown hgrow (by simp; omega) (fun j hj => (HO.out.lt j hj).1)
      clear hown' hgrow HO HOA HP
      go_wp2_with fail
      go_roundw
      case rel => exact ⟨k + 1, by omega, by go_num, R1, R2⟩
      case measure => simp [intOf]; omega
    · have hke : k = ts.length := by omega
      subst hke
      have hbw : Below w.heap.size w wo := hb1.trans (hbe.mono hle1)
      have hoi := kept_belowT HO1.out hbe
      have hcw : wo.heap[cb]? = some (.cells #[.int .i64 room, y1, y2, y3] 53 (0, 0)) := (hbw.block cb hcl).trans hcb
      have c0 : wo.cell? ⟨cb, 0, none⟩ = some (.int .i64 room) := by rw [cell_of_row _ _ 0 _ _ (0, 0) hcw]; rfl
      have f0 := frozen_of_row wo cb 0 _ _ hcw
      obtain ⟨ap, cp, hvp⟩ := own_sliceO ho
      subst hvp
      have hpt : PtrsAt wo (.slice ap ts.length cp) (rowPs g ts) := by
        refine ⟨ap, cp, by rw [rowPs_length], fun j hj => ?_⟩
        have hj3 : j < ts.length := by rw [rowPs_length] at hj; exact hj
        rcases HG.out with h0 | ⟨hga, _, _⟩
        · omega
        · subst hga
          rcases ho.2 with ⟨_, h0⟩ | ⟨gg, cap, cur, hv, _, hh, _⟩
          · omega
          · simp only [Value.slice.injEq, true_and] at hv
            obtain ⟨rfl, rfl⟩ := hv
            refine ⟨gg, 0, rfl, ?_, ?_, ?_⟩
            · rw [Nat.zero_add, ho.cellAt j (by omega), rowPs_at g ts j hj3]
              exact nmV_at g _ j hj3
            · rw [rowPs_at g ts j hj3, hoi.cellAt j (by omega), strV_get ts j hj3]
            · rw [rowPs_at g ts j hj3]
              exact hoi.frozenAt j
      have HOT : Hid (type_of% (implOwnTextsAny cb room _ (rowPs g ts) wo hpt c0 f0 (fun j hj => by rw [rowPs_length] at hj; rw [rowPs_at g ts j hj]; exact HSZ.out _ (List.getElem_mem hj)) h0 hr (by rw [rowPs_length]; omega))) := implOwnTextsAny cb room _ (rowPs g ts) wo hpt c0 f0 (fun j hj => by rw [rowPs_length] at hj; rw [rowPs_at g ts j hj]; exact HSZ.out _ (List.getElem_mem hj)) h0 hr (by rw [rowPs_length]; omega)
      have HFIN : Hid (∀ (w5 : World) (room' : Int), Below wo.heap.size (wo.setCell ⟨cb, 0, none⟩ (.int .i64 room')) w5 → w5.ownsRow w.heap.size 9 1 (.slice a ts.length c) ts.length (strV ts) ∧ Below w.heap.size (w.setCell ⟨cb, 0, none⟩ (.int .i64 room')) w5) := fun w5 room' h5 => by
        have hzo : (wo.setCell ⟨cb, 0, none⟩ (.int .i64 room')).heap.size = wo.heap.size := by simp
        refine ⟨?_, ?_⟩
        · refine ownLowN hoi hle1' fun gg hgg => ?_
          have h1 := hoi.lt gg hgg
          rw [h5.block gg h1.2, Below.heap_setCell _ _ _ _ (by simp; omega)]
        · refine Below.trans ?_ (h5.mono hbw.size)
          refine ⟨hbw.os, hbw.tape, hbw.output, by simpa using hbw.size, fun kk hkk => ?_⟩
          by_cases q : kk = cb
          · subst q
            rw [heap_setCell_same _ _ 0 _ _ _ hcw, heap_setCell_same _ _ 0 _ _ _ hcb]
          · rw [Below.heap_setCell _ _ _ _ (by simpa using q), Below.heap_setCell _ _ _ _ (by simpa using q)]
            exact hbw.block kk hkk
      clear hpt ho hoi HO1 HG HSZ hcw c0 f0 hbw hbe hb1
      go_wp2_with fail
      refine HOT.out.mono ?_
      rintro e w5 ⟨rfl, room', h5⟩
      obtain ⟨F1, F2⟩ := HFIN.out w5 room' h5
      clear HOT HFIN h5
      have HF1 : Hid (type_of% F1) := F1
      clear F1
      go_wp2_with fail
      go_ret
      exact ⟨a, c, rfl, HF1.out, room', F2⟩

end Go.Proofs.Ytfmfihgmpefknac

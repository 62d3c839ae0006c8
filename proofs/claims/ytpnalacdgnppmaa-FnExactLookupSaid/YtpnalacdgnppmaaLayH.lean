/-
  The walks of the law's own helpers markType, heldTypeS and heldType, over types whose layout is known.
-/
import Derived.Test.YtpnalacdgnppmaaLayM
import Derived.Lib.QuietBelow
import Derived.BigQuiet
namespace Go.Proofs.Ytpnalacdgnppmaa
open Go.RowKit Go.Sort

set_option maxHeartbeats 1600000 in
set_option maxRecDepth 100000 in
theorem lawsHeldRowL (n : Nat) : ∀ (v : Value) (ls : List Lay) (ks : List Ty) (k0 : Nat) (w : World), RowL w n v ls (markKs n k0 ks) → rowBulk n ks ≤ 1048576 → 1 ≤ k0 → k0 + 2 * rowBulk n ks ≤ 1000000000 →
    Calls Try.prog 26 #[v, .int .i64 k0] w fun e w' => e = .returned (.int .i64 ((k0 + cntRow n ks : Nat) : Int)) ∧ Below w.heap.size w w' := by
  induction n using Nat.strongRecOn with
  | ind n ih =>
    intro v ls ks k0 w hrow hbk hk1 hk2
    have hkl : ks.length ≤ 1048576 := by unfold rowBulk at hbk; omega
    have hML := markKs_len n k0 ks
    obtain ⟨av, cv, rfl⟩ := hrow.2.1.slice
    rw [hML]
    have IH : Hid (type_of% ih) := ih
    have HROW : Hid (RowL w n (.slice av ks.length cv) ls (markKs n k0 ks)) := by rw [hML] at hrow; exact hrow
    have HLL : Hid (ls.length = ks.length) := hrow.1.trans hML
    have HML : Hid ((markKs n k0 ks).length = ks.length) := hML
    have HMG : Hid (∀ j (h : j < ks.length) (h2 : j < (markKs n k0 ks).length), (markKs n k0 ks)[j] = markT n (k0 + cntRow n (ks.take j)) ks[j]) := fun j h h2 => markKs_get n k0 ks j h h2
    clear ih hrow hML
    generalize markKs n k0 ks = M at *
    go_enter Try.func26, Try.ntmps26
    go_wp2_with fail
    go_loopw [1, 5] (fun kv i wr => ∃ j kk : Nat, j ≤ ks.length ∧ i = .int .i64 j ∧ kv = .int .i64 kk ∧ Hid (kk = k0 + cntRow n (ks.take j)) ∧ Below w.heap.size w wr) (fun _ i _ => ks.length - (intOf i).toNat)
    case atStart => exact ⟨0, k0, Nat.zero_le _, rfl, rfl, (show k0 = k0 + cntRow n (ks.take 0) by simp [cntRow]), Below.refl _ _⟩
    case round =>
      obtain ⟨j, kk, hj, rfl, rfl, HKK, hbe⟩ := hrel
      have hwz : w.heap.size ≤ wr.heap.size := hbe.size
      by_cases hlt : j < ks.length
      · have hlj : j < ls.length := by have := HLL.out; omega
        have hjM : j < M.length := by have := HML.out; omega
        have hmore := rowBulk_more n ks j hlt
        have hle := rowBulk_le n ks (j + 1)
        have hcb := cntRow_bulk n (ks.take j)
        have hkkb : kk ≤ k0 + 2 * rowBulk n (ks.take j) := by have := HKK.out; omega
        have hMj := HMG.out j hlt hjM
        rw [← HKK.out] at hMj
        have hL0 := HROW.out.2.2 j hlj hjM
        rw [hMj] at hL0
        have hL := hL0.below hbe
        obtain ⟨g, cap, hv⟩ := slice_ownL HROW.out.2.1 (by omega)
        rw [HML.out] at hv
        simp only [Value.slice.injEq, true_and] at hv
        obtain ⟨rfl, rfl⟩ := hv
        cases n with
        | zero => exact hL.elim
        | succ m =>
          have hgv : g ∈ blk (.slice (some ⟨g, 0, none⟩) ks.length cv) := (mem_blk (by omega)).2 rfl
          have hgw : g < w.heap.size := owns_lt HROW.out.2.1 hgv
          have hce : ∀ c, c < 4 → wr.cell? ⟨g, j * 4 + c, none⟩ = (cellsK (markT (m + 1) kk ks[j]) ls[j])[c]? := fun c hc => by
            have r' := HROW.out.2.1
            rw [HML.out] at r'
            have r := r'.pos (by omega)
            rw [hbe.cell (p := ⟨g, j * 4 + c, none⟩) hgw, r.cellAt (j * 4 + c) (by omega), flatK_get _ _ j c hjM hlj hc, hMj]
          have hbk2 : t_bulk ks[j] m := by unfold t_bulk; rw [Ty.bulk]; unfold rowBulk; omega
          unfold t_bulk at hbk2
          have hcb2 := cntRow_bulk m ks[j].kids
          have hN : OwnS wr 9 1 ls[j].vn ks[j].names.length (marksV (kk + 2) ks[j].names.length) := by
            have h := hL.1
            have e1 : (markT (m + 1) kk ks[j]).names = marksL (kk + 2) ks[j].names.length := rfl
            rw [e1, marksL_len, ← marksV_eq] at h
            exact h
          have hK : RowL wr m ls[j].vk ls[j].ks (markKs m (kk + 2 + ks[j].names.length) ks[j].kids) := hL.row
          obtain ⟨an, cn, hvn⟩ := hN.slice
          obtain ⟨ak, ck, hvk⟩ := hK.2.1.slice
          rw [markKs_len] at hvk
          have a0 : wr.cell? ⟨g, j * 4, none⟩ = some (.int .i64 kk) := hce 0 (by omega)
          have a1 : wr.cell? ⟨g, j * 4 + 1, none⟩ = some (.string (markB (kk + 1))) := hce 1 (by omega)
          have a2 : wr.cell? ⟨g, j * 4 + 2, none⟩ = some ls[j].vn := hce 2 (by omega)
          have a3 : wr.cell? ⟨g, j * 4 + 3, none⟩ = some ls[j].vk := hce 3 (by omega)
          rw [hvn] at a2 hN
          rw [hvk] at a3 hK
          have hgr : g < wr.heap.size := by omega
          have HMT : Hid (∀ wx : World, Calls Try.prog 22 #[.int .i64 ((kk : Int) + 1)] wx fun e w' => e = .returned (.string (markB (kk + 1))) ∧ Below wx.heap.size wx w') := fun wx => by
            have := lawsMark (kk + 1) wx (by omega) (by omega)
            rw [show (((kk + 1 : Nat)) : Int) = (kk : Int) + 1 from by omega] at this
            exact this
          have HHN : Hid (∀ wx : World, Below wr.heap.size wr wx → Calls Try.prog 25 #[.slice an ks[j].names.length cn, .int .i64 ((kk : Int) + 1 + 1)] wx fun e w' => e = .returned (.int .i64 ((kk + 2 + ks[j].names.length : Nat) : Int)) ∧ Below wx.heap.size wx w') := fun wx hx => by
            have := lawsHeldS _ ks[j].names.length (kk + 2) wx (hN.below hx) (by omega) (by omega) (by omega)
            rw [show (((kk + 2 : Nat)) : Int) = (kk : Int) + 1 + 1 from by omega] at this
            exact this
          have HHK : Hid (∀ wx : World, Below wr.heap.size wr wx → Calls Try.prog 26 #[.slice ak ks[j].kids.length ck, .int .i64 ((kk + 2 + ks[j].names.length : Nat) : Int)] wx fun e w' => e = .returned (.int .i64 ((kk + 2 + ks[j].names.length + cntRow m ks[j].kids : Nat) : Int)) ∧ Below wx.heap.size wx w') := fun wx hx => IH.out m (by omega) _ _ _ (kk + 2 + ks[j].names.length) wx (hK.below hx) (by omega) (by omega) (by omega)
          have HKK2 : Hid (kk + 2 + ks[j].names.length + cntRow m ks[j].kids = k0 + cntRow (m + 1) (ks.take (j + 1))) := by
            show _ = _
            rw [cntRow_more _ _ _ hlt, HKK.out, cntT]
            unfold cntRow
            omega
          have hb1 : kk + 2 + ks[j].names.length ≤ 1000000000 := by omega
          have hb2 : kk + 2 + ks[j].names.length + cntRow m ks[j].kids ≤ 2000000000 := by omega
          clear hL hL0 hN hK hce hvn hvk hMj HMG HKK HROW HML IH
          generalize hS : kk + 2 + ks[j].names.length = S at *
          generalize hE : S + cntRow m ks[j].kids = E at *
          clear hS hE
          generalize markB (kk + 1) = V at *
          have hj0 : (0 : Int) ≤ j := by omega
          have hj1 : (j : Int) < ks.length := by omega
          have q1 : ∀ d os, (grow (redrawn wr d) os).cell? ⟨g, j * 4 + 1, none⟩ = some (.string V) := fun d os => cell_regrown a1 d os
          go_wp2_with fail
          refine wp_region_quiet_below (by kernel_rfl) (by kernel_rfl) ?_
          repeat (go_big_quiet_step (exact Calls.regrown_of (HMT.out _)))
          refine wpQuiet_nil ?_
          intro _ hw'
          obtain ⟨⟨dq, osq⟩, hw''⟩ := hw'
          subst hw''
          have hb3 := below_regrown wr dq osq
          clear q1 HMT
          generalize grow (redrawn wr dq) osq = w2 at *
          have c2 := (hb3.cell (p := ⟨g, j * 4 + 2, none⟩) hgr).trans a2
          have HN2 : Hid (type_of% (HHN.out w2 hb3)) := HHN.out w2 hb3
          clear HHN
          go_wp2_with fail
          refine HN2.out.mono ?_
          rintro e w3 ⟨rfl, hb4⟩
          have hb03 := hb3.trans (hb4.mono hb3.size)
          have c3 := (hb03.cell (p := ⟨g, j * 4 + 3, none⟩) hgr).trans a3
          have HK2 : Hid (type_of% (HHK.out w3 hb03)) := HHK.out w3 hb03
          clear HHK HN2 c2
          go_wp2_with fail
          refine HK2.out.mono ?_
          rintro e w4 ⟨rfl, hb5⟩
          have R2 : Below w.heap.size w w4 := hbe.trans ((hb03.trans (hb5.mono hb03.size)).mono hwz)
          clear HK2 c3 hb03 hb3 hb4 hb5
          go_wp2_with fail
          go_roundw
          case rel => exact ⟨j + 1, E, by omega, by go_num, rfl, HKK2, R2⟩
          case measure => simp [intOf]; omega
      · have hke : j = ks.length := by omega
        have HF : Hid (kk = k0 + cntRow n ks) := by
          have h1 := HKK.out
          rw [hke, List.take_of_length_le (Nat.le_refl _)] at h1
          exact h1
        clear HROW HKK
        go_wp2_with fail
        go_ret
        exact ⟨by rw [HF.out]; rfl, hbe⟩

end Go.Proofs.Ytpnalacdgnppmaa

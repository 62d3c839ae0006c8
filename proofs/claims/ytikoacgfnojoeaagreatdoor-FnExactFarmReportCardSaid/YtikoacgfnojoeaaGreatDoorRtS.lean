/-
  The walk of spec.ResultText: it answers the result's text.
-/
import Derived.Test.YtikoacgfnojoeaaGreatDoorRtP
import Derived.Test.YtikoacgfnojoeaaGreatDoorRsR
import Derived.Test.YtikoacgfnojoeaaGreatDoorDecTextW
namespace Go.Proofs.YtikoacgfnojoeaaGreatDoor
open Go.RowKit

set_option maxHeartbeats 1600000 in
set_option maxRecDepth 100000 in
theorem specResultText (rn : ByteArray) (vD x2 x3 x4 x5 : Value) (ds : List Dg) (w : World) (hD : DiAt w vD ds) (hrn : rn.size ≤ 1048576) (hbk : dgsBulk ds ≤ 1048576) (hln : ∀ e ∈ ds, -9223372036854775808 ≤ e.1 ∧ e.1 ≤ 9223372036854775807) :
    Calls Tryz.prog 16 #[.agg #[.string rn, vD, x2, x3, x4, x5]] w fun e w' => e = .returned (.string (rtText rn ds)) ∧ Below w.heap.size w w' := by
  obtain ⟨aD, cD, rfl, hel⟩ := diOpen hD
  have hld : ds.length ≤ 1048576 := by unfold dgsBulk at hbk; omega
  have hsm : (ds.map fun e => e.2.size).sum ≤ 1048576 := by unfold dgsBulk at hbk; omega
  have hB1 : Below w.heap.size w (w.alloc (.cells #[.string rn, .slice aD ds.length cD, x2, x3, x4, x5] 63)) := (Below.refl _ _).alloc (Nat.le_refl _) _
  have HEL : Hid (type_of% hel) := hel
  have HLN : Hid (type_of% hln) := hln
  have HBK : Hid (type_of% hbk) := hbk
  have HSM : Hid (type_of% hsm) := hsm
  clear hel hln hD hbk hsm
  have HA : Hid (∀ wx : World, Below (w.heap.size + 1) (w.alloc (.cells #[.string rn, .slice aD ds.length cD, x2, x3, x4, x5] 63)) wx → SixR wx w.heap.size (.string rn) (.slice aD ds.length cD) x2 x3 x4 x5 ∧ Below w.heap.size w wx) := fun wx hx => ⟨sixR_new rfl hx, hB1.trans (hx.mono (by omega))⟩
  have hBr : Below (w.heap.size + 1) (w.alloc (.cells #[.string rn, .slice aD ds.length cD, x2, x3, x4, x5] 63)) (w.alloc (.cells #[.string rn, .slice aD ds.length cD, x2, x3, x4, x5] 63)) := Below.refl _ _
  have HB0 : Hid (rn ++ ⟨#[58]⟩ = ⟨(catL (rtHead rn [])).toArray⟩) := cat_begin rn
  go_enter Tryz.func16, Tryz.ntmps16
  go_wp2_with fail
  go_loopw [3, 4] (fun o i wr => ∃ k : Nat, k ≤ ds.length ∧ i = .int .i64 k ∧ o = .string ⟨(catL (rtHead rn (ds.take k))).toArray⟩ ∧ Below (w.heap.size + 1) (w.alloc (.cells #[.string rn, .slice aD ds.length cD, x2, x3, x4, x5] 63)) wr) (fun _ i _ => ds.length - (intOf i).toNat)
  case atStart => exact ⟨0, Nat.zero_le _, rfl, by rw [HB0.out]; rfl, hBr⟩
  case round =>
    obtain ⟨k, hk, rfl, rfl, hbe⟩ := hrel
    clear HB0 hBr hB1
    obtain ⟨⟨⟨_, a1, _⟩, _⟩, hw⟩ := HA.out wr hbe
    by_cases hlt : k < ds.length
    · obtain ⟨b, off, rfl, hbl, q0, q1⟩ := HEL.out k hlt
      have c0 := (hw.cell (p := ⟨b, off + k * 2, none⟩) hbl).trans q0
      have c1 := (hw.cell (p := ⟨b, off + k * 2 + 1, none⟩) hbl).trans q1
      have HM : Hid (rtHead rn (ds.take (k + 1)) = rtHead rn (ds.take k) ++ dgP ds[k]) := rtHead_more rn ds k hlt
      have hln := HLN.out ds[k] (List.getElem_mem hlt)
      have hIs := itoaB_size ds[k].1 hln
      have hCs : ds[k].2.size ≤ 1048576 := Nat.le_trans (dg_bulk ds k hlt) HBK.out
      have hcs : (catL (rtHead rn (ds.take k))).length ≤ 100000000 := by
        have h1 := catL_rtHead rn (ds.take k) (fun e he => HLN.out e (List.mem_of_mem_take he))
        have h2 := dgSum_le ds k
        have h3 : (ds.take k).length ≤ ds.length := by simp; omega
        have h4 := HSM.out
        omega
      have HQ : Hid (∀ wx : World, Calls Tryz.prog 37 #[.int .i64 ds[k].1] wx fun e w' => e = .returned (.string (itoaB ds[k].1)) ∧ w' = wx) := fun wx => (specDecText _ wx hln.1 hln.2).mono fun e w' h => ⟨h.1, h.2.symm⟩
      have HF : Hid (((((⟨(catL (rtHead rn (ds.take k))).toArray⟩ : ByteArray) ++ ⟨#[32]⟩) ++ itoaB ds[k].1) ++ ⟨#[58]⟩) ++ ds[k].2 = ⟨(catL (rtHead rn (ds.take (k + 1)))).toArray⟩) := by
        show _ = _
        rw [HM.out, catL_append, cat_round]
        rfl
      clear HM q0 q1 HEL HLN hln HBK HSM
      generalize catL (rtHead rn (ds.take k)) = c at *
      have hOs : (⟨c.toArray⟩ : ByteArray).size ≤ 100000000 := by simpa [ByteArray.size] using hcs
      generalize (⟨c.toArray⟩ : ByteArray) = O at *
      clear hcs
      generalize itoaB ds[k].1 = I at *
      generalize ds[k].1 = ln at *
      generalize ds[k].2 = C at *
      have hk0 : (0 : Int) ≤ k := by omega
      have hk1 : (k : Int) < ds.length := by omega
      go_wp2_with fail
      go_quiet ((go_at_call 37; exact Calls.quiet_of_same (HQ.out _)))
      go_wp2_with fail
      go_roundw
      case rel => exact ⟨k + 1, by omega, by go_num, by rw [HF.out], below_drewN hbe _⟩
      case measure => simp [intOf]; omega
    · have hke : k = ds.length := by omega
      subst hke
      rw [List.take_of_length_le (Nat.le_refl _)]
      have hcs : (catL (rtHead rn ds)).length ≤ 100000000 := by
        have h1 := catL_rtHead rn ds HLN.out
        have h4 := HSM.out
        omega
      clear HEL HLN HBK HSM
      by_cases h0 : ds.length = 0
      · have HF : Hid (((⟨(catL (rtHead rn ds)).toArray⟩ : ByteArray) ++ ⟨#[32, 111, 107]⟩) ++ ⟨#[10]⟩ = rtText rn ds) := by
          show _ = _
          unfold rtText rtParts rtEnd
          rw [if_pos h0, catL_append, cat_end0]
        generalize catL (rtHead rn ds) = c at *
        go_wp2_with fail
        go_ret
        exact ⟨by rw [← HF.out]; rfl, hw⟩
      · have HF : Hid ((⟨(catL (rtHead rn ds)).toArray⟩ : ByteArray) ++ ⟨#[10]⟩ = rtText rn ds) := by
          show _ = _
          unfold rtText rtParts rtEnd
          rw [if_neg h0, catL_append, cat_end1]
        have h0' : ((ds.length : Int) == 0) = false := by rw [beq_eq_false_iff_ne]; omega
        generalize catL (rtHead rn ds) = c at *
        go_wp2_with fail
        go_ret
        exact ⟨by rw [← HF.out]; rfl, hw⟩

end Go.Proofs.YtikoacgfnojoeaaGreatDoor

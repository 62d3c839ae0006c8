/-
  The walk of the law FnNums.
-/
import Derived.Test.YtfmfihgmpefknaaDoorRoundW
import Derived.Test.YtfmfihgmpefknaaDoorDecTextI
import Derived.Deep.QuietTactic
import Derived.BigQuiet
import Derived.Lib.QuietBelow
namespace Go.Proofs.YtfmfihgmpefknaaDoor
open Go.RowKit Go.Sort

theorem getTI_size (v : ByteArray) (k : Int) : (getTI v k).1.size ≤ v.size := by
  unfold getTI
  by_cases hc : (getNI v k).2 < 0 ∨ 10000000 < (getNI v k).1 ∨ (v.size : Int) - (getNI v k).2 < (getNI v k).1
  · rw [if_pos hc]; exact Nat.zero_le _
  · rw [if_neg hc]; simp; omega

theorem list_empty : (⟨#[]⟩ : ByteArray).toList.isEmpty = true := by rw [ByteArray.toList_eq]; rfl

/-- of PutNum's answer: it is empty, or it is read again -/
theorem putNI_read (n : Int) : (putNI n).toList.isEmpty = true ∨ ((putNI n).toList.isEmpty = false ∧ getNI ((⟨#[97]⟩ : ByteArray) ++ putNI n ++ ⟨#[98]⟩) 1 = (n, 1 + ((putNI n).size : Int))) := by
  by_cases h : 0 ≤ n ∧ n ≤ 999999999
  · right
    have e : putNI n = numB n.toNat := if_pos h
    obtain ⟨k, rfl⟩ := Int.eq_ofNat_of_zero_le h.1
    rw [Int.toNat_natCast] at e
    rw [e]
    refine ⟨list_some ?_, getNI_put k (by omega)⟩
    have := (Plain.encF_length 4 k).1
    simp [numB, strOfNums_size, ints]
    omega
  · left
    rw [show putNI n = ⟨#[]⟩ from if_neg h]
    exact list_empty

theorem ab_size (V : ByteArray) : ((⟨#[97]⟩ : ByteArray) ++ V ++ ⟨#[98]⟩).size = V.size + 2 := by
  have h1 : (⟨#[97]⟩ : ByteArray).size = 1 := rfl
  have h2 : (⟨#[98]⟩ : ByteArray).size = 1 := rfl
  rw [ByteArray.size_append, ByteArray.size_append, h1, h2]
  omega

theorem tab_below {P : Program} {w w' : World} {n : String} {k : IntKind} {zs : List Int} {g : Nat} (h : Lib.TabIs P w n k zs) (hg : P.globalNamed n = some g) (hgB : g < w.heap.size) (hb : Below w.heap.size w w') : Lib.TabIs P w' n k zs :=
  var?_below hb hg hgB h

theorem lawsBig (a : Option Addr) (len cap : Nat) (w : World) :
    Calls Tryd.prog 6 #[.slice a len cap] w fun e w' => e = .returned (.bool (decide ((1048576 : Int) < len))) ∧ w = w' := by
  go_enter Tryd.func6, Tryd.ntmps6
  go_wp2
  go_ret
  exact ⟨rfl, rfl⟩

set_option maxHeartbeats 2000000 in
set_option maxRecDepth 100000 in
theorem numsWalk (a : Option Addr) (len cap : Nat) (w : World) (hA : CodeArg w a len) (htab : Lib.TabIs Tryd.prog w "internal/strconv.uint64pow10" .u64 Lib.pow10Tab) (hg : 2 < w.heap.size) :
    Calls Tryd.prog 3 #[.slice a len cap] w fun e w' => e = .returned (.bool true) ∧ Below w.heap.size w w' := by
  have HA : Hid (CodeArg w a len) := hA
  have HT : Hid (Lib.TabIs Tryd.prog w "internal/strconv.uint64pow10" .u64 Lib.pow10Tab) := htab
  have hbig : decide ((1048576 : Int) < len) = false := by have := hA.size; simp; omega
  clear hA htab
  go_enter Tryd.func3, Tryd.ntmps3
  go_wp2_with fail
  refine (lawsBig a len cap _).mono ?_
  rintro e w0 ⟨rfl, rfl⟩
  rw [hbig]
  clear hbig
  go_wp2_with fail
  refine (drawPutNum a len cap _ HA.out).mono ?_
  rintro e w1 ⟨n, rfl, hn, hb1⟩
  have HB1 : Hid (Below w.heap.size w w1) := hb1
  have HN : Hid (Fits n) := hn
  clear hb1 hn
  have HPN := putNI_read n
  have hV5 := putNI_size n
  have HI : Hid (∀ wx : World, Calls Tryd.prog 8 #[.int .i64 n] wx fun e w' => e = .returned (.string (putNI n)) ∧ Below wx.heap.size wx w') := fun wx => implPutNum n wx
  have HS : Hid (∀ wx : World, Calls Tryd.prog 18 #[.int .i64 n] wx fun e w' => e = .returned (.string (putNI n)) ∧ Below wx.heap.size wx w') := fun wx => specPutNum n wx
  generalize putNI n = V at *
  have HV : Hid (V.toList.isEmpty = true ∨ (V.toList.isEmpty = false ∧ getNI ((⟨#[97]⟩ : ByteArray) ++ V ++ ⟨#[98]⟩) 1 = (n, 1 + (V.size : Int)))) := HPN
  clear HPN
  go_wp2_with fail
  refine (HI.out _).mono ?_
  rintro e w2 ⟨rfl, hb2⟩
  have HB2 : Hid (Below w.heap.size w w2) := HB1.out.trans (hb2.mono HB1.out.size)
  clear hb2 HB1 HI
  go_wp2_with fail
  refine (drawGetNum a len cap _ (HA.out.below HB2.out)).mono ?_
  rintro e w3 ⟨u, i, rfl, hu, hi, hb3⟩
  have HB3 : Hid (Below w.heap.size w w3) := HB2.out.trans (hb3.mono HB2.out.size)
  have HF : Hid (Fits i) := hi
  clear hb3 HB2 hi
  have HR := getNI_back u i
  have HGI : Hid (∀ wx : World, Calls Tryd.prog 10 #[.string u, .int .i64 i] wx fun e w' => e = .returned (.tuple #[.int .i64 (getNI u i).1, .int .i64 (getNI u i).2]) ∧ wx = w') := fun wx => implGetNum u i wx (by omega) HF.out.2
  have HGS : Hid (∀ wx : World, Calls Tryd.prog 11 #[.string u, .int .i64 i] wx fun e w' => e = .returned (.tuple #[.int .i64 (getNI u i).1, .int .i64 (getNI u i).2]) ∧ Below wx.heap.size wx w') := fun wx => specGetNum u i wx (by omega) HF.out.2
  generalize getNI u i = r1 at *
  obtain ⟨x, tq⟩ := r1
  simp only at HGI HGS HR
  have HR1 : Hid (0 < tq → 0 ≤ i ∧ i ≤ tq ∧ tq ≤ u.size ∧ putNI x = u.extract i.toNat tq.toNat ∧ 0 ≤ x ∧ x ≤ 999999999) := HR
  clear HR
  go_wp2_with fail
  refine (HGI.out _).mono ?_
  rintro e w3' ⟨rfl, rfl⟩
  go_wp2_with fail
  refine (HGS.out _).mono ?_
  rintro e w4 ⟨rfl, hb4⟩
  have HB4 : Hid (Below w.heap.size w w4) := HB3.out.trans (hb4.mono HB3.out.size)
  clear hb4 HB3 HGI HGS
  go_wp2_with fail
  refine (drawPutText a len cap _ (HA.out.below HB4.out)).mono ?_
  rintro e w5 ⟨t, rfl, ht, hb5⟩
  have HB5 : Hid (Below w.heap.size w w5) := HB4.out.trans (hb5.mono HB4.out.size)
  clear hb5 HB4
  have HLB := getTI_put t (by omega)
  have hLs := putT_size t
  have HPI : Hid (∀ wx : World, Calls Tryd.prog 13 #[.string t] wx fun e w' => e = .returned (.string (putT t)) ∧ Below wx.heap.size wx w') := fun wx => implPutText t wx (by omega)
  have HPS : Hid (∀ wx : World, Calls Tryd.prog 19 #[.string t] wx fun e w' => e = .returned (.string (putT t)) ∧ Below wx.heap.size wx w') := fun wx => specPutText t wx (by omega)
  generalize putT t = L at *
  have HL : Hid (getTI ((⟨#[97]⟩ : ByteArray) ++ L ++ ⟨#[98]⟩) 1 = (t, 1 + (L.size : Int))) := HLB
  clear HLB
  have hL1 : L.size ≤ 1005 := by omega
  clear hLs
  go_wp2_with fail
  refine (HPI.out _).mono ?_
  rintro e w6 ⟨rfl, hb6⟩
  have HB6 : Hid (Below w.heap.size w w6) := HB5.out.trans (hb6.mono HB5.out.size)
  clear hb6 HB5 HPI
  go_wp2_with fail
  refine (drawGetText a len cap _ (HA.out.below HB6.out)).mono ?_
  rintro e w7 ⟨v, k, rfl, hv, hk, hb7⟩
  have HB7 : Hid (Below w.heap.size w w7) := HB6.out.trans (hb7.mono HB6.out.size)
  have HFk : Hid (Fits k) := hk
  clear hb7 HB6 hk
  have HR := getTI_back v k
  have hps := getTI_size v k
  have HXI : Hid (∀ wx : World, Calls Tryd.prog 15 #[.string v, .int .i64 k] wx fun e w' => e = .returned (.tuple #[.string (getTI v k).1, .int .i64 (getTI v k).2]) ∧ Below wx.heap.size wx w') := fun wx => implGetText v k wx (by omega) HFk.out.2
  have HXS : Hid (∀ wx : World, Calls Tryd.prog 16 #[.string v, .int .i64 k] wx fun e w' => e = .returned (.tuple #[.string (getTI v k).1, .int .i64 (getTI v k).2]) ∧ Below wx.heap.size wx w') := fun wx => specGetText v k wx (by omega) HFk.out.2
  generalize getTI v k = r2 at *
  obtain ⟨p, fin⟩ := r2
  simp only at HXI HXS HR hps
  have HR2 : Hid (0 < fin → 0 ≤ k ∧ k ≤ fin ∧ fin ≤ v.size ∧ putT p = v.extract k.toNat fin.toNat) := HR
  clear HR
  go_wp2_with fail
  refine (HXI.out _).mono ?_
  rintro e w8 ⟨rfl, hb8⟩
  have HB8 : Hid (Below w.heap.size w w8) := HB7.out.trans (hb8.mono HB7.out.size)
  clear hb8 HB7 HXI
  go_wp2_with fail
  refine (HXS.out _).mono ?_
  rintro e w9 ⟨rfl, hb9⟩
  have HB9 : Hid (Below w.heap.size w w9) := HB8.out.trans (hb9.mono HB8.out.size)
  clear hb9 HB8 HXS
  go_wp2_with fail
  refine (drawDecText a len cap _ (HA.out.below HB9.out)).mono ?_
  rintro e w10 ⟨d, rfl, hd, hb10⟩
  have HB10 : Hid (Below w.heap.size w w10) := HB9.out.trans (hb10.mono HB9.out.size)
  have HFd : Hid (Fits d) := hd
  clear hb10 HB9 hd
  have HDI : Hid (∀ wx : World, Lib.TabIs Tryd.prog wx "internal/strconv.uint64pow10" .u64 Lib.pow10Tab → Calls Tryd.prog 20 #[.int .i64 d] wx fun e w' => e = .returned (.string ⟨(Lib.itoa d).toArray⟩) ∧ Below wx.heap.size wx w') := fun wx h => implDecText d wx HFd.out.1 HFd.out.2 h
  have HDS : Hid (∀ wx : World, Calls Tryd.prog 21 #[.int .i64 d] wx fun e w' => e = .returned (.string ⟨(Lib.itoa d).toArray⟩) ∧ wx = w') := fun wx => specDecText d wx HFd.out.1 HFd.out.2
  generalize (⟨(Lib.itoa d).toArray⟩ : ByteArray) = DT at *
  go_wp2_with fail
  refine (HS.out _).mono ?_
  rintro e w11 ⟨rfl, hb11⟩
  have HB11 : Hid (Below w.heap.size w w11) := HB10.out.trans (hb11.mono HB10.out.size)
  clear hb11 HB10 HS
  go_wp2_with fail
  refine (HPS.out _).mono ?_
  rintro e w12 ⟨rfl, hb12⟩
  have HB12 : Hid (Below w.heap.size w w12) := HB11.out.trans (hb12.mono HB11.out.size)
  clear hb12 HB11 HPS
  go_wp2_with fail
  refine (HDI.out _ (tab_below HT.out (show Tryd.prog.globalNamed "internal/strconv.uint64pow10" = some 2 by kernel_rfl) hg HB12.out)).mono ?_
  rintro e w13 ⟨rfl, hb13⟩
  have HB13 : Hid (Below w.heap.size w w13) := HB12.out.trans (hb13.mono HB12.out.size)
  clear hb13 HB12 HDI
  go_wp2_with fail
  refine (HDS.out _).mono ?_
  rintro e w13' ⟨rfl, rfl⟩
  clear HDS HT HA
  have HGT : Hid (∀ wx : World, Calls Tryd.prog 15 #[.string ((⟨#[97]⟩ : ByteArray) ++ L ++ ⟨#[98]⟩), .int .i64 1] wx fun e w' => e = .returned (.tuple #[.string t, .int .i64 (1 + (L.size : Int))]) ∧ Below wx.heap.size wx w') := fun wx => by
    have := implGetText ((⟨#[97]⟩ : ByteArray) ++ L ++ ⟨#[98]⟩) 1 wx (by rw [ab_size]; omega) (by omega)
    rw [HL.out] at this
    exact this
  clear HL
  go_wp2_with fail
  by_cases hto : 0 < tq
  · obtain ⟨b1, b2, b3, b4, b5, b6⟩ := HR1.out hto
    have HPX : Hid (∀ wx : World, Calls Tryd.prog 8 #[.int .i64 x] wx fun e w' => e = .returned (.string (u.extract i.toNat tq.toNat)) ∧ Below wx.heap.size wx w') := fun wx => by
      have := implPutNum x wx
      rw [b4] at this
      exact this
    have hsl1 : ∀ wx : World, (Instr.slice 9 (.string u) (some (.int .i64 i)) (some (.int .i64 tq)) none).run Tryd.prog wx = .ok (.string (u.extract i.toNat tq.toNat)) wx := fun wx =>
      run_slice_string (P := Tryd.prog) wx 9 u .i64 .i64 i tq Tryd.underlying9 b1 b2 b3
    generalize u.extract i.toNat tq.toNat = T1 at *
    clear HR1 b4
    by_cases hfin : 0 < fin
    · obtain ⟨c1, c2, c3, c4⟩ := HR2.out hfin
      have HPT : Hid (∀ wx : World, Calls Tryd.prog 13 #[.string p] wx fun e w' => e = .returned (.string (v.extract k.toNat fin.toNat)) ∧ Below wx.heap.size wx w') := fun wx => by
        have := implPutText p wx (by omega)
        rw [c4] at this
        exact this
      have hsl2 : ∀ wx : World, (Instr.slice 9 (.string v) (some (.int .i64 k)) (some (.int .i64 fin)) none).run Tryd.prog wx = .ok (.string (v.extract k.toNat fin.toNat)) wx := fun wx =>
        run_slice_string (P := Tryd.prog) wx 9 v .i64 .i64 k fin Tryd.underlying9 c1 c2 c3
      generalize v.extract k.toNat fin.toNat = T2 at *
      clear HR2 c4
      refine wp_region_quiet_below (by kernel_rfl) (by kernel_rfl) ?_
      repeat (go_big_quiet_step (first | exact Calls.regrown_of (HPX.out _) | exact Calls.regrown_of (HPT.out _)))
      refine wpQuiet_nil ?_
      intro _ hw'
      obtain ⟨⟨dq, osq⟩, hw''⟩ := hw'
      subst hw''
      have HB20 : Hid (Below w.heap.size w (grow (redrawn w13 dq) osq)) := HB13.out.trans ((below_regrown w13 dq osq).mono HB13.out.size)
      clear HB13
      generalize grow (redrawn w13 dq) osq = w14 at *
      rcases HV.out with hVe | ⟨hVe, hGN⟩
      · clear HV
        go_wp2_with fail
        refine (HGT.out _).mono ?_
        rintro e w20 ⟨rfl, hb20⟩
        have HFin : Hid (Below w.heap.size w w20) := HB20.out.trans (hb20.mono HB20.out.size)
        clear hb20
        go_wp2
        go_ret
        exact ⟨rfl, HFin.out⟩
      · have HGN : Hid (∀ wx : World, Calls Tryd.prog 10 #[.string ((⟨#[97]⟩ : ByteArray) ++ V ++ ⟨#[98]⟩), .int .i64 1] wx fun e w' => e = .returned (.tuple #[.int .i64 n, .int .i64 (1 + (V.size : Int))]) ∧ wx = w') := fun wx => by
          have := implGetNum ((⟨#[97]⟩ : ByteArray) ++ V ++ ⟨#[98]⟩) 1 wx (by rw [ab_size]; omega) (by omega)
          rw [hGN] at this
          exact this
        clear HV hGN
        go_wp2_with fail
        refine (HGN.out _).mono ?_
        rintro e w19 ⟨rfl, rfl⟩
        go_wp2_with fail
        refine (HGT.out _).mono ?_
        rintro e w20 ⟨rfl, hb20⟩
        have HFin : Hid (Below w.heap.size w w20) := HB20.out.trans (hb20.mono HB20.out.size)
        clear hb20
        go_wp2
        go_ret
        exact ⟨rfl, HFin.out⟩
    · have hdf : decide (0 < fin) = false := by simpa using hfin
      clear HR2
      refine wp_region_quiet_below (by kernel_rfl) (by kernel_rfl) ?_
      repeat (go_big_quiet_step (exact Calls.regrown_of (HPX.out _)))
      refine wpQuiet_nil ?_
      intro _ hw'
      obtain ⟨⟨dq, osq⟩, hw''⟩ := hw'
      subst hw''
      have HB20 : Hid (Below w.heap.size w (grow (redrawn w13 dq) osq)) := HB13.out.trans ((below_regrown w13 dq osq).mono HB13.out.size)
      clear HB13
      generalize grow (redrawn w13 dq) osq = w14 at *
      rcases HV.out with hVe | ⟨hVe, hGN⟩
      · clear HV
        go_wp2_with fail
        refine (HGT.out _).mono ?_
        rintro e w20 ⟨rfl, hb20⟩
        have HFin : Hid (Below w.heap.size w w20) := HB20.out.trans (hb20.mono HB20.out.size)
        clear hb20
        go_wp2
        go_ret
        exact ⟨rfl, HFin.out⟩
      · have HGN : Hid (∀ wx : World, Calls Tryd.prog 10 #[.string ((⟨#[97]⟩ : ByteArray) ++ V ++ ⟨#[98]⟩), .int .i64 1] wx fun e w' => e = .returned (.tuple #[.int .i64 n, .int .i64 (1 + (V.size : Int))]) ∧ wx = w') := fun wx => by
          have := implGetNum ((⟨#[97]⟩ : ByteArray) ++ V ++ ⟨#[98]⟩) 1 wx (by rw [ab_size]; omega) (by omega)
          rw [hGN] at this
          exact this
        clear HV hGN
        go_wp2_with fail
        refine (HGN.out _).mono ?_
        rintro e w19 ⟨rfl, rfl⟩
        go_wp2_with fail
        refine (HGT.out _).mono ?_
        rintro e w20 ⟨rfl, hb20⟩
        have HFin : Hid (Below w.heap.size w w20) := HB20.out.trans (hb20.mono HB20.out.size)
        clear hb20
        go_wp2
        go_ret
        exact ⟨rfl, HFin.out⟩
  · have hdt : decide (0 < tq) = false := by simpa using hto
    clear HR1
    by_cases hfin : 0 < fin
    · obtain ⟨c1, c2, c3, c4⟩ := HR2.out hfin
      have HPT : Hid (∀ wx : World, Calls Tryd.prog 13 #[.string p] wx fun e w' => e = .returned (.string (v.extract k.toNat fin.toNat)) ∧ Below wx.heap.size wx w') := fun wx => by
        have := implPutText p wx (by omega)
        rw [c4] at this
        exact this
      have hsl2 : ∀ wx : World, (Instr.slice 9 (.string v) (some (.int .i64 k)) (some (.int .i64 fin)) none).run Tryd.prog wx = .ok (.string (v.extract k.toNat fin.toNat)) wx := fun wx =>
        run_slice_string (P := Tryd.prog) wx 9 v .i64 .i64 k fin Tryd.underlying9 c1 c2 c3
      generalize v.extract k.toNat fin.toNat = T2 at *
      clear HR2 c4
      refine wp_region_quiet_below (by kernel_rfl) (by kernel_rfl) ?_
      repeat (go_big_quiet_step (exact Calls.regrown_of (HPT.out _)))
      refine wpQuiet_nil ?_
      intro _ hw'
      obtain ⟨⟨dq, osq⟩, hw''⟩ := hw'
      subst hw''
      have HB20 : Hid (Below w.heap.size w (grow (redrawn w13 dq) osq)) := HB13.out.trans ((below_regrown w13 dq osq).mono HB13.out.size)
      clear HB13
      generalize grow (redrawn w13 dq) osq = w14 at *
      rcases HV.out with hVe | ⟨hVe, hGN⟩
      · clear HV
        go_wp2_with fail
        refine (HGT.out _).mono ?_
        rintro e w20 ⟨rfl, hb20⟩
        have HFin : Hid (Below w.heap.size w w20) := HB20.out.trans (hb20.mono HB20.out.size)
        clear hb20
        go_wp2
        go_ret
        exact ⟨rfl, HFin.out⟩
      · have HGN : Hid (∀ wx : World, Calls Tryd.prog 10 #[.string ((⟨#[97]⟩ : ByteArray) ++ V ++ ⟨#[98]⟩), .int .i64 1] wx fun e w' => e = .returned (.tuple #[.int .i64 n, .int .i64 (1 + (V.size : Int))]) ∧ wx = w') := fun wx => by
          have := implGetNum ((⟨#[97]⟩ : ByteArray) ++ V ++ ⟨#[98]⟩) 1 wx (by rw [ab_size]; omega) (by omega)
          rw [hGN] at this
          exact this
        clear HV hGN
        go_wp2_with fail
        refine (HGN.out _).mono ?_
        rintro e w19 ⟨rfl, rfl⟩
        go_wp2_with fail
        refine (HGT.out _).mono ?_
        rintro e w20 ⟨rfl, hb20⟩
        have HFin : Hid (Below w.heap.size w w20) := HB20.out.trans (hb20.mono HB20.out.size)
        clear hb20
        go_wp2
        go_ret
        exact ⟨rfl, HFin.out⟩
    · have hdf : decide (0 < fin) = false := by simpa using hfin
      clear HR2
      refine wp_region_quiet_below (by kernel_rfl) (by kernel_rfl) ?_
      repeat (go_big_quiet_step (fail))
      refine wpQuiet_nil ?_
      intro _ hw'
      obtain ⟨⟨dq, osq⟩, hw''⟩ := hw'
      subst hw''
      have HB20 : Hid (Below w.heap.size w (grow (redrawn w13 dq) osq)) := HB13.out.trans ((below_regrown w13 dq osq).mono HB13.out.size)
      clear HB13
      generalize grow (redrawn w13 dq) osq = w14 at *
      rcases HV.out with hVe | ⟨hVe, hGN⟩
      · clear HV
        go_wp2_with fail
        refine (HGT.out _).mono ?_
        rintro e w20 ⟨rfl, hb20⟩
        have HFin : Hid (Below w.heap.size w w20) := HB20.out.trans (hb20.mono HB20.out.size)
        clear hb20
        go_wp2
        go_ret
        exact ⟨rfl, HFin.out⟩
      · have HGN : Hid (∀ wx : World, Calls Tryd.prog 10 #[.string ((⟨#[97]⟩ : ByteArray) ++ V ++ ⟨#[98]⟩), .int .i64 1] wx fun e w' => e = .returned (.tuple #[.int .i64 n, .int .i64 (1 + (V.size : Int))]) ∧ wx = w') := fun wx => by
          have := implGetNum ((⟨#[97]⟩ : ByteArray) ++ V ++ ⟨#[98]⟩) 1 wx (by rw [ab_size]; omega) (by omega)
          rw [hGN] at this
          exact this
        clear HV hGN
        go_wp2_with fail
        refine (HGN.out _).mono ?_
        rintro e w19 ⟨rfl, rfl⟩
        go_wp2_with fail
        refine (HGT.out _).mono ?_
        rintro e w20 ⟨rfl, hb20⟩
        have HFin : Hid (Below w.heap.size w w20) := HB20.out.trans (hb20.mono HB20.out.size)
        clear hb20
        go_wp2
        go_ret
        exact ⟨rfl, HFin.out⟩

end Go.Proofs.YtfmfihgmpefknaaDoor

/-
  The walk of the law FnStore.
-/
import Derived.Test.YtoebfpdalkpkdaaDoorStG
import Derived.Test.YtoebfpdalkpkdaaDoorItGt
import Derived.Test.YtoebfpdalkpkdaaDoorItF
import Derived.Test.YtoebfpdalkpkdaaDoorItG
namespace Go.Proofs.YtoebfpdalkpkdaaDoor
open Go.RowKit

theorem SMem.none (w : World) : SMem w w [] := ⟨Below.refl _ _, fun q hq => by simp at hq, fun q hq => by simp at hq⟩
theorem small_bulk {es : List Itm} {n m : Nat} (h : SmallI es n m) (hn : n ≤ 100) (hm : m ≤ 1000) : itsBulk es ≤ 1048576 := by
  have := h.bulk
  have : n * m ≤ 100 * 1000 := Nat.mul_le_mul hn hm
  omega

set_option maxHeartbeats 6400000 in
set_option maxRecDepth 100000 in
open Classical in
theorem walkFnStore (a : Option Addr) (len cap : Nat) (w : World) (hA : CodeL w a len) (hc : w.cell? ⟨3, 15, none⟩ = some (.int .u8 4)) :
    Calls Tryd.prog 7 #[.slice a len cap] w fun e w' => e = .returned (.bool true) ∧ Below w.heap.size w w' := by
  have HA : Hid (∀ X, Below w.heap.size w X → CodeL X a len) := fun X hX => hA.below hX
  have HT : Hid (∀ X, Below w.heap.size w X → X.cell? ⟨3, 15, none⟩ = some (.int .u8 4)) := fun X hX => (hX.cell (p := ⟨3, 15, none⟩) (World.block_lt_of_cell? w ⟨3, 15, none⟩ hc)).trans hc
  have hsize := hA.size
  have hb0 : decide ((1048576 : Int) < len) = false := by simp; omega
  have HD0 : Hid (type_of% (drawStorePut a len cap w hA)) := drawStorePut a len cap w hA
  clear hA hc
  go_enter Tryd.func7, Tryd.ntmps7
  go_wp2_with fail
  refine (lawsBigSt a len cap _).mono ?_
  rintro e w0 ⟨rfl, rfl⟩
  rw [hb0]
  clear hb0 hsize
  go_wp2_with fail
  refine HD0.out.mono ?_
  rintro e w1 ⟨room, av, cv, es, s, rfl, hs1, hnil, hsm, ho1, hb1⟩
  have M1 := (SMem.none w).add (room := room) hb1 ho1
  obtain ⟨c0, c1⟩ := M1.cells (List.mem_cons_self ..)
  obtain ⟨L, hL⟩ := storePuts_some room es s ⟨#[110, 101, 119]⟩
  have hbk := small_bulk hsm (by decide) (by decide)
  have HIP : Hid (type_of% (implStorePut room _ es s ⟨#[110, 101, 119]⟩ L _ (M1.at (List.mem_cons_self ..)) hbk (by omega) (by decide) (HT.out _ M1.bel) hL)) := implStorePut room _ es s ⟨#[110, 101, 119]⟩ L _ (M1.at (List.mem_cons_self ..)) hbk (by omega) (by decide) (HT.out _ M1.bel) hL
  have N1 : Hid (type_of% M1) := M1
  have HLF : Hid (StorePuts room es s ⟨#[110, 101, 119]⟩ L ∧ SmallI es 8 200 ∧ (av = none → cv = 0)) := ⟨hL, hsm, hnil⟩
  clear M1 HD0 hL hsm hnil ho1 hb1 hbk
  go_wp2_with fail
  refine HIP.out.mono ?_
  rintro e w2 ⟨aP, cP, rfl, ho2, hb2⟩
  have hnilP := own_nilI ho2
  have M2 := N1.out.add (room := room) hb2 ho2
  have HD2 : Hid (type_of% (drawStoreGet a len cap _ (HA.out _ M2.bel))) := drawStoreGet a len cap _ (HA.out _ M2.bel)
  have N2 : Hid (type_of% M2) := M2
  have HNP : Hid (aP = none → cP = 0) := hnilP
  clear M2 N1 HIP ho2 hb2 hnilP c0 c1
  go_wp2_with fail
  refine HD2.out.mono ?_
  rintro e w3 ⟨rg, ag, cg, eg, u, rfl, ⟨inp, rfl, hinp⟩, hnilg, hsmg, ho3, hb3⟩
  have M3 := N2.out.add (room := rg) hb3 ho3
  obtain ⟨c0, c1⟩ := M3.cells (List.mem_cons_self ..)
  obtain ⟨og, fg, Lg, hG⟩ := storeGets_some rg eg inp
  have hbk := small_bulk hsmg (by decide) (by decide)
  have HIG : Hid (type_of% (implStoreGet rg _ eg inp og fg Lg _ (M3.at (List.mem_cons_self ..)) (by omega) (HT.out _ M3.bel) hG)) := implStoreGet rg _ eg inp og fg Lg _ (M3.at (List.mem_cons_self ..)) (by omega) (HT.out _ M3.bel) hG
  have N3 : Hid (type_of% M3) := M3
  have HGF : Hid (StoreGets rg eg inp og fg Lg ∧ SmallI eg 8 200 ∧ (ag = none → cg = 0) ∧ itsBulk eg ≤ 1048576) := ⟨hG, hsmg, hnilg, hbk⟩
  clear M3 N2 HD2 hG hsmg hnilg ho3 hb3 hbk
  go_wp2_with fail
  refine HIG.out.mono ?_
  rintro e w4 ⟨aH, cH, rfl, ho4, hb4⟩
  have M4 := N3.out.add (room := rg) hb4 ho4
  obtain ⟨c0', c1'⟩ := M4.cells (b := w3.heap.size) (room := rg) (v := .slice ag eg.length cg) (L := eg) (by simp)
  have HSG : Hid (type_of% (specStoreGet rg ag cg eg inp og fg Lg _ HGF.out.2.2.1 (M4.at (b := w3.heap.size) (room := rg) (v := .slice ag eg.length cg) (L := eg) (by simp)) (by have := HGF.out.2.2.2; omega) HGF.out.1)) := specStoreGet rg ag cg eg inp og fg Lg _ HGF.out.2.2.1 (M4.at (b := w3.heap.size) (room := rg) (v := .slice ag eg.length cg) (L := eg) (by simp)) (by have := HGF.out.2.2.2; omega) HGF.out.1
  have N4 : Hid (type_of% M4) := M4
  clear M4 N3 HIG ho4 hb4 c0 c1
  go_wp2_with fail
  refine HSG.out.mono ?_
  rintro e w5 ⟨aW, cW, rfl, ho5, hb5⟩
  have M5 := N4.out.add (room := rg) hb5 ho5
  have HD5 : Hid (type_of% (drawStoreDrop a len cap _ (HA.out _ M5.bel))) := drawStoreDrop a len cap _ (HA.out _ M5.bel)
  have N5 : Hid (type_of% M5) := M5
  clear M5 N4 HSG ho5 hb5 c0' c1'
  go_wp2_with fail
  refine HD5.out.mono ?_
  rintro e w6 ⟨rd, ad, cd, ed, u, rfl, ⟨n, rfl⟩, hnild, hsmd, ho6, hb6⟩
  have M6 := N5.out.add (room := rd) hb6 ho6
  have N6 : Hid (type_of% M6) := M6
  have HDF : Hid (SmallI ed 8 200 ∧ (ad = none → cd = 0)) := ⟨hsmd, hnild⟩
  clear M6 N5 HD5 hsmd hnild ho6 hb6
  go_wp2_with fail
  generalize w6.alloc (.cells #[.int .i64 rd, .slice ad ed.length cd] 29) = Y at *
  generalize w1.heap.size = b1 at *
  generalize w2.heap.size = b2 at *
  generalize w3.heap.size = b3 at *
  generalize w4.heap.size = b4 at *
  generalize w5.heap.size = b5 at *
  generalize w6.heap.size = b6 at *
  have HQ : Hid (∀ Z, Below Y.heap.size Y Z → (Z.cell? ⟨b2, 0, none⟩ = some (.int .i64 room) ∧ Z.cell? ⟨b2, 1, none⟩ = some (.slice aP L.length cP)) ∧ (Z.cell? ⟨b1, 0, none⟩ = some (.int .i64 room) ∧ Z.cell? ⟨b1, 1, none⟩ = some (.slice av es.length cv)) ∧ (Z.cell? ⟨b4, 0, none⟩ = some (.int .i64 rg) ∧ Z.cell? ⟨b4, 1, none⟩ = some (.slice aH Lg.length cH)) ∧ (Z.cell? ⟨b5, 0, none⟩ = some (.int .i64 rg) ∧ Z.cell? ⟨b5, 1, none⟩ = some (.slice aW Lg.length cW)) ∧ (Z.cell? ⟨b6, 0, none⟩ = some (.int .i64 rd) ∧ Z.cell? ⟨b6, 1, none⟩ = some (.slice ad ed.length cd))) := fun Z hZ => by
    have h := N6.out.below hZ
    exact ⟨h.cells (L := L) (by simp), h.cells (L := es) (by simp), h.cells (L := Lg) (by simp), h.cells (L := Lg) (by simp), h.cells (L := ed) (by simp)⟩
  have HIT : Hid (∀ Z, Below Y.heap.size Y Z → ItAt Z (.slice aP L.length cP) L ∧ ItAt Z (.slice av es.length cv) es ∧ ItAt Z (.slice aH Lg.length cH) Lg ∧ ItAt Z (.slice aW Lg.length cW) Lg ∧ ItAt Z (.slice ad ed.length cd) ed ∧ Z.cell? ⟨3, 15, none⟩ = some (.int .u8 4)) := fun Z hZ => by
    have h := N6.out.below hZ
    exact ⟨h.at (b := b2) (room := room) (by simp), h.at (b := b1) (room := room) (by simp), h.at (b := b4) (room := rg) (by simp), h.at (b := b5) (room := rg) (by simp), h.at (b := b6) (room := rd) (by simp), HT.out _ h.bel⟩
  obtain ⟨k, hk⟩ := dropIs_some rd ed n
  have hkl := hk.le
  obtain ⟨E, hE⟩ : ∃ E, E = ed.take k := ⟨_, rfl⟩
  have hEl : E.length = k := by rw [hE, List.length_take]; omega
  have hLs := put_small HLF.out.1 HLF.out.2.1 (by have := keyB_size s; show (keyB s).size + s.size + 3 ≤ 200; omega)
  have hGs := get_small HGF.out.1 HGF.out.2.1
  have hbe := small_bulk HLF.out.2.1 (by decide) (by decide)
  have hbd := small_bulk HDF.out.1 (by decide) (by decide)
  have hbL := small_bulk hLs (by decide) (by decide)
  have hEk : E.length ≤ 8 := by rw [hEl]; have := HDF.out.1.1; omega
  have HS1 : Hid (∀ Z, Below Y.heap.size Y Z → Calls Tryd.prog 13 #[.agg #[.int .i64 room, .slice av es.length cv], .string s, .string ⟨#[110, 101, 119]⟩] Z fun e w' => ∃ a c, e = .returned (.agg #[.int .i64 room, .slice a L.length c]) ∧ w'.ownsRow Z.heap.size 50 3 (.slice a L.length c) L.length (itV L) ∧ Below Z.heap.size Z w') := fun Z hZ => specStorePut room av cv es s ⟨#[110, 101, 119]⟩ L Z HLF.out.2.2 (HIT.out Z hZ).2.1 hbe (by omega) HLF.out.1
  have HM1 : Hid (∀ Z u, Below Y.heap.size Y Z → ItAt Z u L → Calls Tryd.prog 25 #[.agg #[.int .i64 room, .slice aP L.length cP], .agg #[.int .i64 room, u]] Z fun e w' => e = .returned (.bool true) ∧ Below Z.heap.size Z w') := fun Z u hZ hu => lawsSameStore room _ u L Z (HIT.out Z hZ).1 hu (by have := hLs.1; omega)
  have HM2 : Hid (∀ Z, Below Y.heap.size Y Z → Calls Tryd.prog 25 #[.agg #[.int .i64 rg, .slice aH Lg.length cH], .agg #[.int .i64 rg, .slice aW Lg.length cW]] Z fun e w' => e = .returned (.bool true) ∧ Below Z.heap.size Z w') := fun Z hZ => lawsSameStore rg _ _ Lg Z (HIT.out Z hZ).2.2.1 (HIT.out Z hZ).2.2.2.1 (by have := hGs.1; omega)
  have HI4 : Hid (∀ Z, Below Y.heap.size Y Z → Calls Tryd.prog 20 #[.agg #[.int .i64 rd, .slice ad ed.length cd], .int .i64 n] Z fun e w' => ∃ a c, e = .returned (.agg #[.int .i64 rd, .slice a E.length c]) ∧ w'.ownsRow Z.heap.size 50 3 (.slice a E.length c) E.length (itV E) ∧ Below Z.heap.size Z w') := fun Z hZ => by
    have := implStoreDrop rd n _ ed Z (HIT.out Z hZ).2.2.2.2.1 (by omega) (HIT.out Z hZ).2.2.2.2.2 k hk
    rw [← hE, ← hEl] at this
    exact this
  have HS5 : Hid (∀ Z, Below Y.heap.size Y Z → Calls Tryd.prog 19 #[.agg #[.int .i64 rd, .slice ad ed.length cd], .int .i64 n] Z fun e w' => ∃ a c, e = .returned (.agg #[.int .i64 rd, .slice a E.length c]) ∧ w'.ownsRow Z.heap.size 50 3 (.slice a E.length c) E.length (itV E) ∧ Below Z.heap.size Z w') := fun Z hZ => by
    have := specStoreDrop rd n ad cd ed Z HDF.out.2 (HIT.out Z hZ).2.2.2.2.1 (by omega) k hk
    rw [← hE, ← hEl] at this
    exact this
  have HM6 : Hid (∀ Z u v, ItAt Z u E → ItAt Z v E → Calls Tryd.prog 25 #[.agg #[.int .i64 rd, u], .agg #[.int .i64 rd, v]] Z fun e w' => e = .returned (.bool true) ∧ Below Z.heap.size Z w') := fun Z u v hu hv => lawsSameStore rd u v E Z hu hv (by omega)
  have HI7 : Hid (∀ Z, Below Y.heap.size Y Z → Calls Tryd.prog 11 #[.agg #[.int .i64 room, .slice av es.length cv]] Z fun e w' => e = .returned (.bool (decide (StoreRight room es))) ∧ Below Z.heap.size Z w') := fun Z hZ => implStoreOk room _ es Z (HIT.out Z hZ).2.1 (by omega) (HIT.out Z hZ).2.2.2.2.2
  have HS8 : Hid (∀ Z, Below Y.heap.size Y Z → Calls Tryd.prog 9 #[.agg #[.int .i64 room, .slice av es.length cv]] Z fun e w' => e = .returned (.bool (decide (StoreRight room es))) ∧ Below Z.heap.size Z w') := fun Z hZ => specStoreOk room _ es Z (HIT.out Z hZ).2.1 (by omega)
  have HLS : Hid (SmallI L 9 200 ∧ SmallI Lg 8 200 ∧ itsBulk L ≤ 1048576) := ⟨hLs, hGs, hbL⟩
  have hff : (fg != fg) = false := by cases fg <;> rfl
  have HRR : Hid (∃ rr, rr = decide (StoreRight room es)) := ⟨_, rfl⟩
  obtain ⟨rr, hrr⟩ := HRR.out
  rw [← hrr] at HI7 HS8
  have hr2 : (rr != rr) = false := by cases rr <;> rfl
  have HRS : Hid (type_of% hrr) := hrr
  have hQ0 := HQ.out Y (Below.refl _ _)
  clear hk hkl hE hEl hLs hGs hbe hbd hbL hEk HRR hrr
  go_region_held3 (fun w' => (w'.cell? ⟨b2, 0, none⟩ = some (.int .i64 room) ∧ w'.cell? ⟨b2, 1, none⟩ = some (.slice aP L.length cP)) ∧ (w'.cell? ⟨b1, 0, none⟩ = some (.int .i64 room) ∧ w'.cell? ⟨b1, 1, none⟩ = some (.slice av es.length cv)) ∧ (w'.cell? ⟨b4, 0, none⟩ = some (.int .i64 rg) ∧ w'.cell? ⟨b4, 1, none⟩ = some (.slice aH Lg.length cH)) ∧ (w'.cell? ⟨b5, 0, none⟩ = some (.int .i64 rg) ∧ w'.cell? ⟨b5, 1, none⟩ = some (.slice aW Lg.length cW)) ∧ (w'.cell? ⟨b6, 0, none⟩ = some (.int .i64 rd) ∧ w'.cell? ⟨b6, 1, none⟩ = some (.slice ad ed.length cd)))
    (first
      | exact hQ0
      | exact HQ.out _ (Below.refl _ _).drew
      | exact HQ.out _ (by assumption))
    (first
      | (go_at_call 13; refine (HS1.out _ (Below.refl _ _).drew).mono ?_; rintro e wA ⟨a1, c1, rfl, oA, bA⟩; have hYA : Below Y.heap.size Y wA := (Below.refl _ _).drew.trans bA)
      | (revert oE; intro oE; go_at_call 25; refine (HM6.out wE _ _ iD (itRow oE)).mono ?_; rintro e wF ⟨rfl, bF⟩; have hYF : Below Y.heap.size Y wF := hYE.trans (bF.mono hYE.size))
      | (revert bB; intro bB; go_at_call 25; refine (HM2.out wB hYB).mono ?_; rintro e wC ⟨rfl, bC⟩; have hYC : Below Y.heap.size Y wC := hYB.trans (bC.mono hYB.size))
      | (revert oA; intro oA; go_at_call 25; refine (HM1.out wA _ hYA (itRow oA)).mono ?_; rintro e wB ⟨rfl, bB⟩; have hYB : Below Y.heap.size Y wB := hYA.trans (bB.mono hYA.size))
      | (go_at_call 20; refine (HI4.out _ hYC).mono ?_; rintro e wD ⟨a4, c4, rfl, oD, bD⟩; have hYD : Below Y.heap.size Y wD := hYC.trans (bD.mono hYC.size))
      | (go_at_call 19; refine (HS5.out _ hYD).mono ?_; rintro e wE ⟨a5, c5, rfl, oE, bE⟩; have hYE : Below Y.heap.size Y wE := hYD.trans (bE.mono hYD.size); have iD := (itRow oD).below bE)
      | (go_at_call 11; refine (HI7.out _ hYF).mono ?_; rintro e wG ⟨rfl, bG⟩; have hYG : Below Y.heap.size Y wG := hYF.trans (bG.mono hYF.size))
      | (go_at_call 9; refine (HS8.out _ hYG).mono ?_; rintro e wH ⟨rfl, bH⟩; have hYH : Below Y.heap.size Y wH := hYG.trans (bH.mono hYG.size)))
  clear HS1 HM1 HM2 HI4 HS5 HM6 HI7 HDF hQ0 oA bA hYA bB hYB bC hYC oD bD hYD oE bE hYE iD bF hYF bG hYG bH hff hr2
  cases fg with
  | false =>
    have HS13 : Hid (type_of% (HS8.out wH hYH)) := HS8.out wH hYH
    obtain ⟨_, ⟨s0, s1⟩, _⟩ := HQ.out wH hYH
    go_wp2_with fail
    refine HS13.out.mono ?_
    rintro e wJ ⟨rfl, bJ⟩
    have hYJ : Below Y.heap.size Y wJ := hYH.trans (bJ.mono hYH.size)
    clear HS13 bJ s0 s1
    obtain ⟨⟨p0, p1⟩, ⟨s0, s1⟩, _⟩ := HQ.out wJ hYJ
    obtain ⟨iP, iS, _⟩ := HIT.out wJ hYJ
    cases rr with
    | false =>
      have hnr : ¬ StoreRight room es := of_decide_eq_false HRS.out.symm
      have hLe : L = es := HLF.out.1.2 hnr
      have HSL : Hid (Calls Tryd.prog 25 #[.agg #[.int .i64 room, .slice aP L.length cP], .agg #[.int .i64 room, .slice av es.length cv]] wJ fun e w' => e = .returned (.bool true) ∧ Below wJ.heap.size wJ w') := by
        rw [hLe] at iP ⊢
        exact lawsSameStore room _ _ es wJ iP iS (by have := HLF.out.2.1.1; omega)
      clear hnr hLe iP iS
      go_wp2_with fail
      refine HSL.out.mono ?_
      rintro e wK ⟨rfl, bK⟩
      have hFin : Below w.heap.size w wK := (N6.out.below (hYJ.trans (bK.mono hYJ.size))).bel
      clear HSL
      go_wp2_with fail
      go_ret
      exact ⟨rfl, hFin⟩
    | true =>
      have hr : StoreRight room es := of_decide_eq_true HRS.out.symm
      obtain ⟨hrL, hle, _⟩ := put_right HLF.out.1 hr
      obtain ⟨back, is, L2, hG2⟩ := storeGets_some room L s
      obtain ⟨his, hback⟩ := put_got HLF.out.1 hr hG2
      have hbL := HLS.out.2.2
      have HIG2 : Hid (type_of% (implStoreGet room _ L s back is L2 wJ iP (by omega) (HIT.out wJ hYJ).2.2.2.2.2 hG2)) := implStoreGet room _ L s back is L2 wJ iP (by omega) (HIT.out wJ hYJ).2.2.2.2.2 hG2
      have HHI : Hid (is = decide (0 < room) ∧ (is = true → back = ⟨#[110, 101, 119]⟩)) := ⟨his, hback⟩
      have HOKL : Hid (∀ Z, Below Y.heap.size Y Z → Calls Tryd.prog 11 #[.agg #[.int .i64 room, .slice aP L.length cP]] Z fun e w' => e = .returned (.bool true) ∧ Below Z.heap.size Z w') := fun Z hZ => by
        have := implStoreOk room _ L Z (HIT.out Z hZ).1 (by omega) (HIT.out Z hZ).2.2.2.2.2
        rw [decide_eq_true hrL] at this
        exact this
      obtain ⟨m, hm⟩ := dropIs_some room L 1
      obtain ⟨F, hF⟩ : ∃ F, F = L.take m := ⟨_, rfl⟩
      have hml := hm.le
      have hFl : F.length = m := by rw [hF, List.length_take]; omega
      have hFr : StoreRight room F := by rw [hF]; exact right_take hrL m
      have hFb : itsBulk F ≤ 1048576 := by rw [hF]; exact small_bulk (take_small HLS.out.1 m) (by decide) (by decide)
      have HDR : Hid (∀ Z, Below Y.heap.size Y Z → Calls Tryd.prog 20 #[.agg #[.int .i64 room, .slice aP L.length cP], .int .i64 1] Z fun e w' => ∃ a c, e = .returned (.agg #[.int .i64 room, .slice a F.length c]) ∧ w'.ownsRow Z.heap.size 50 3 (.slice a F.length c) F.length (itV F) ∧ Below Z.heap.size Z w') := fun Z hZ => by
        have := implStoreDrop room 1 _ L Z (HIT.out Z hZ).1 (by omega) (HIT.out Z hZ).2.2.2.2.2 m hm
        rw [← hF, ← hFl] at this
        exact this
      have HOKF : Hid (∀ (Z : World) (u : Value), ItAt Z u F → Below Y.heap.size Y Z → Calls Tryd.prog 11 #[.agg #[.int .i64 room, u]] Z fun e w' => e = .returned (.bool true) ∧ Below Z.heap.size Z w') := fun Z u hu hZ => by
        have := implStoreOk room u F Z hu (by omega) (HIT.out Z hZ).2.2.2.2.2
        rw [decide_eq_true hFr] at this
        exact this
      clear hr hrL his hback hG2 iP iS hm hF hml hFl hFr hFb hbL s0 s1
      go_wp2_with fail
      refine HIG2.out.mono ?_
      rintro e wK ⟨aQ, cQ, rfl, oK, bK⟩
      have bA : Below wK.heap.size wK (wK.alloc (.cells #[.int .i64 room, .slice aQ L2.length cQ] 29)) := (Below.refl _ _).alloc (Nat.le_refl _) _
      have hYK : Below Y.heap.size Y (wK.alloc (.cells #[.int .i64 room, .slice aQ L2.length cQ] 29)) := (hYJ.trans (bK.mono hYJ.size)).trans (bA.mono (hYJ.trans (bK.mono hYJ.size)).size)
      obtain ⟨⟨p0', p1'⟩, ⟨s0', s1'⟩, _⟩ := HQ.out _ hYK
      have HOK1 : Hid (type_of% (HOKL.out _ hYK)) := HOKL.out _ hYK
      clear HIG2 oK bK bA p0 p1
      go_wp2_with fail
      refine HOK1.out.mono ?_
      rintro e wL ⟨rfl, bL⟩
      have hYL : Below Y.heap.size Y wL := hYK.trans (bL.mono hYK.size)
      obtain ⟨⟨p0, p1⟩, ⟨s0, s1⟩, _⟩ := HQ.out wL hYL
      have HDR1 : Hid (type_of% (HDR.out wL hYL)) := HDR.out wL hYL
      clear HOK1 HOKL HDR bL hYK p0' p1' s0' s1'
      have hbk : is = false ∨ (is = true ∧ back = ⟨#[110, 101, 119]⟩) := by
        cases hi : is with
        | false => exact .inl rfl
        | true => exact .inr ⟨rfl, HHI.out.2 hi⟩
      have hgt : (is == decide ((0 : Int) < room)) = true := by rw [HHI.out.1]; exact beq_self_eq_true _
      have hend : ∀ (wM : World), Below Y.heap.size Y wM → Below w.heap.size w wM := fun wM h => (N6.out.below h).bel
      have HEND : Hid (type_of% hend) := hend
      have hler : (L.length : Int) ≤ room := hle
      clear hend HHI hle
      rcases hbk with hbk | ⟨hbi, hbk⟩
      · subst hbk
        go_wp2_with fail
        refine HDR1.out.mono ?_
        rintro e wM ⟨aM, cM, rfl, oM, bM⟩
        have hYM : Below Y.heap.size Y wM := hYL.trans (bM.mono hYL.size)
        have HOK2 : Hid (type_of% (HOKF.out wM _ (itRow oM) hYM)) := HOKF.out wM _ (itRow oM) hYM
        clear HDR1 oM bM
        go_wp2_with fail
        refine HOK2.out.mono ?_
        rintro e wN ⟨rfl, bN⟩
        have hFin := HEND.out wN (hYM.trans (bN.mono hYM.size))
        clear HOK2 HEND
        go_wp2_with fail
        go_ret
        exact ⟨rfl, hFin⟩
      · subst hbi
        subst hbk
        go_wp2_with fail
        refine HDR1.out.mono ?_
        rintro e wM ⟨aM, cM, rfl, oM, bM⟩
        have hYM : Below Y.heap.size Y wM := hYL.trans (bM.mono hYL.size)
        have HOK2 : Hid (type_of% (HOKF.out wM _ (itRow oM) hYM)) := HOKF.out wM _ (itRow oM) hYM
        clear HDR1 oM bM
        go_wp2_with fail
        refine HOK2.out.mono ?_
        rintro e wN ⟨rfl, bN⟩
        have hFin := HEND.out wN (hYM.trans (bN.mono hYM.size))
        clear HOK2 HEND
        go_wp2_with fail
        go_ret
        exact ⟨rfl, hFin⟩
  | true =>
    obtain ⟨hlg, hrg, h0g, hfst⟩ := got_first HGF.out.1
    have hM7 := N6.out.below hYH
    obtain ⟨g0, g1⟩ := hM7.cells (b := b3) (room := rg) (v := .slice ag eg.length cg) (L := eg) (by simp)
    obtain ⟨h0, h1⟩ := (HQ.out wH hYH).2.2.1
    obtain ⟨av', cv', ea, hel⟩ := itOpen (HIT.out wH hYH).2.2.1
    simp only [Value.slice.injEq, true_and] at ea
    obtain ⟨rfl, rfl⟩ := ea
    obtain ⟨bh, oh, rfl, u1, u2, k1, u3⟩ := hel 0 h0g
    clear u1 u2 u3
    rw [hfst, Nat.zero_mul, Nat.add_zero] at k1
    have hne : ((Lg.length : Int) != (eg.length : Int)) = false := by rw [hlg]; simp
    have hpos : (0 : Int) < (Lg.length : Int) := by omega
    have HOKH : Hid (Calls Tryd.prog 11 #[.agg #[.int .i64 rg, .slice (some ⟨bh, oh, none⟩) Lg.length cH]] wH fun e w' => e = .returned (.bool true) ∧ Below wH.heap.size wH w') := by
      have := implStoreOk rg _ Lg wH (HIT.out wH hYH).2.2.1 (by have := small_bulk HLS.out.2.1 (by decide) (by decide); omega) (HIT.out wH hYH).2.2.2.2.2
      rw [decide_eq_true hrg] at this
      exact this
    clear hlg hrg h0g hfst hM7 hel
    go_wp2_with fail
    refine HOKH.out.mono ?_
    rintro e wI ⟨rfl, bI⟩
    have hYI : Below Y.heap.size Y wI := hYH.trans (bI.mono hYH.size)
    clear HOKH g0 g1 h0 h1 k1 hne hpos bI
    have HS13 : Hid (type_of% (HS8.out wI hYI)) := HS8.out wI hYI
    obtain ⟨_, ⟨s0, s1⟩, _⟩ := HQ.out wI hYI
    go_wp2_with fail
    refine HS13.out.mono ?_
    rintro e wJ ⟨rfl, bJ⟩
    have hYJ : Below Y.heap.size Y wJ := hYI.trans (bJ.mono hYI.size)
    clear HS13 bJ s0 s1
    obtain ⟨⟨p0, p1⟩, ⟨s0, s1⟩, _⟩ := HQ.out wJ hYJ
    obtain ⟨iP, iS, _⟩ := HIT.out wJ hYJ
    cases rr with
    | false =>
      have hnr : ¬ StoreRight room es := of_decide_eq_false HRS.out.symm
      have hLe : L = es := HLF.out.1.2 hnr
      have HSL : Hid (Calls Tryd.prog 25 #[.agg #[.int .i64 room, .slice aP L.length cP], .agg #[.int .i64 room, .slice av es.length cv]] wJ fun e w' => e = .returned (.bool true) ∧ Below wJ.heap.size wJ w') := by
        rw [hLe] at iP ⊢
        exact lawsSameStore room _ _ es wJ iP iS (by have := HLF.out.2.1.1; omega)
      clear hnr hLe iP iS
      go_wp2_with fail
      refine HSL.out.mono ?_
      rintro e wK ⟨rfl, bK⟩
      have hFin : Below w.heap.size w wK := (N6.out.below (hYJ.trans (bK.mono hYJ.size))).bel
      clear HSL
      go_wp2_with fail
      go_ret
      exact ⟨rfl, hFin⟩
    | true =>
      have hr : StoreRight room es := of_decide_eq_true HRS.out.symm
      obtain ⟨hrL, hle, _⟩ := put_right HLF.out.1 hr
      obtain ⟨back, is, L2, hG2⟩ := storeGets_some room L s
      obtain ⟨his, hback⟩ := put_got HLF.out.1 hr hG2
      have hbL := HLS.out.2.2
      have HIG2 : Hid (type_of% (implStoreGet room _ L s back is L2 wJ iP (by omega) (HIT.out wJ hYJ).2.2.2.2.2 hG2)) := implStoreGet room _ L s back is L2 wJ iP (by omega) (HIT.out wJ hYJ).2.2.2.2.2 hG2
      have HHI : Hid (is = decide (0 < room) ∧ (is = true → back = ⟨#[110, 101, 119]⟩)) := ⟨his, hback⟩
      have HOKL : Hid (∀ Z, Below Y.heap.size Y Z → Calls Tryd.prog 11 #[.agg #[.int .i64 room, .slice aP L.length cP]] Z fun e w' => e = .returned (.bool true) ∧ Below Z.heap.size Z w') := fun Z hZ => by
        have := implStoreOk room _ L Z (HIT.out Z hZ).1 (by omega) (HIT.out Z hZ).2.2.2.2.2
        rw [decide_eq_true hrL] at this
        exact this
      obtain ⟨m, hm⟩ := dropIs_some room L 1
      obtain ⟨F, hF⟩ : ∃ F, F = L.take m := ⟨_, rfl⟩
      have hml := hm.le
      have hFl : F.length = m := by rw [hF, List.length_take]; omega
      have hFr : StoreRight room F := by rw [hF]; exact right_take hrL m
      have hFb : itsBulk F ≤ 1048576 := by rw [hF]; exact small_bulk (take_small HLS.out.1 m) (by decide) (by decide)
      have HDR : Hid (∀ Z, Below Y.heap.size Y Z → Calls Tryd.prog 20 #[.agg #[.int .i64 room, .slice aP L.length cP], .int .i64 1] Z fun e w' => ∃ a c, e = .returned (.agg #[.int .i64 room, .slice a F.length c]) ∧ w'.ownsRow Z.heap.size 50 3 (.slice a F.length c) F.length (itV F) ∧ Below Z.heap.size Z w') := fun Z hZ => by
        have := implStoreDrop room 1 _ L Z (HIT.out Z hZ).1 (by omega) (HIT.out Z hZ).2.2.2.2.2 m hm
        rw [← hF, ← hFl] at this
        exact this
      have HOKF : Hid (∀ (Z : World) (u : Value), ItAt Z u F → Below Y.heap.size Y Z → Calls Tryd.prog 11 #[.agg #[.int .i64 room, u]] Z fun e w' => e = .returned (.bool true) ∧ Below Z.heap.size Z w') := fun Z u hu hZ => by
        have := implStoreOk room u F Z hu (by omega) (HIT.out Z hZ).2.2.2.2.2
        rw [decide_eq_true hFr] at this
        exact this
      clear hr hrL his hback hG2 iP iS hm hF hml hFl hFr hFb hbL s0 s1
      go_wp2_with fail
      refine HIG2.out.mono ?_
      rintro e wK ⟨aQ, cQ, rfl, oK, bK⟩
      have bA : Below wK.heap.size wK (wK.alloc (.cells #[.int .i64 room, .slice aQ L2.length cQ] 29)) := (Below.refl _ _).alloc (Nat.le_refl _) _
      have hYK : Below Y.heap.size Y (wK.alloc (.cells #[.int .i64 room, .slice aQ L2.length cQ] 29)) := (hYJ.trans (bK.mono hYJ.size)).trans (bA.mono (hYJ.trans (bK.mono hYJ.size)).size)
      obtain ⟨⟨p0', p1'⟩, ⟨s0', s1'⟩, _⟩ := HQ.out _ hYK
      have HOK1 : Hid (type_of% (HOKL.out _ hYK)) := HOKL.out _ hYK
      clear HIG2 oK bK bA p0 p1
      go_wp2_with fail
      refine HOK1.out.mono ?_
      rintro e wL ⟨rfl, bL⟩
      have hYL : Below Y.heap.size Y wL := hYK.trans (bL.mono hYK.size)
      obtain ⟨⟨p0, p1⟩, ⟨s0, s1⟩, _⟩ := HQ.out wL hYL
      have HDR1 : Hid (type_of% (HDR.out wL hYL)) := HDR.out wL hYL
      clear HOK1 HOKL HDR bL hYK p0' p1' s0' s1'
      have hbk : is = false ∨ (is = true ∧ back = ⟨#[110, 101, 119]⟩) := by
        cases hi : is with
        | false => exact .inl rfl
        | true => exact .inr ⟨rfl, HHI.out.2 hi⟩
      have hgt : (is == decide ((0 : Int) < room)) = true := by rw [HHI.out.1]; exact beq_self_eq_true _
      have hend : ∀ (wM : World), Below Y.heap.size Y wM → Below w.heap.size w wM := fun wM h => (N6.out.below h).bel
      have HEND : Hid (type_of% hend) := hend
      have hler : (L.length : Int) ≤ room := hle
      clear hend HHI hle
      rcases hbk with hbk | ⟨hbi, hbk⟩
      · subst hbk
        go_wp2_with fail
        refine HDR1.out.mono ?_
        rintro e wM ⟨aM, cM, rfl, oM, bM⟩
        have hYM : Below Y.heap.size Y wM := hYL.trans (bM.mono hYL.size)
        have HOK2 : Hid (type_of% (HOKF.out wM _ (itRow oM) hYM)) := HOKF.out wM _ (itRow oM) hYM
        clear HDR1 oM bM
        go_wp2_with fail
        refine HOK2.out.mono ?_
        rintro e wN ⟨rfl, bN⟩
        have hFin := HEND.out wN (hYM.trans (bN.mono hYM.size))
        clear HOK2 HEND
        go_wp2_with fail
        go_ret
        exact ⟨rfl, hFin⟩
      · subst hbi
        subst hbk
        go_wp2_with fail
        refine HDR1.out.mono ?_
        rintro e wM ⟨aM, cM, rfl, oM, bM⟩
        have hYM : Below Y.heap.size Y wM := hYL.trans (bM.mono hYL.size)
        have HOK2 : Hid (type_of% (HOKF.out wM _ (itRow oM) hYM)) := HOKF.out wM _ (itRow oM) hYM
        clear HDR1 oM bM
        go_wp2_with fail
        refine HOK2.out.mono ?_
        rintro e wN ⟨rfl, bN⟩
        have hFin := HEND.out wN (hYM.trans (bN.mono hYM.size))
        clear HOK2 HEND
        go_wp2_with fail
        go_ret
        exact ⟨rfl, hFin⟩

end Go.Proofs.YtoebfpdalkpkdaaDoor

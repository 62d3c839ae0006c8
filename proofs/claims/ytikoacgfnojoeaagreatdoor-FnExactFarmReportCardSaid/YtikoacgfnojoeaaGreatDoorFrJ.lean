/-
  The walk of impl.reportOf.
  The walk of impl.FarmReport.
-/
import Derived.Test.YtikoacgfnojoeaaGreatDoorFrM
import Derived.Test.YtikoacgfnojoeaaGreatDoorFmW
namespace Go.Proofs.YtikoacgfnojoeaaGreatDoor
open Go.RowKit

/-- the report of results -/
def frTexts (es : List ResV) : List ByteArray := es.map fun e => rtText e.rn e.ds
def frText (es : List ResV) : ByteArray := ⟨(catL (frTexts es)).toArray⟩
def AllDone (set : List Src) (done : List ResV) : Prop := ∀ s ∈ set, s.1 ∈ done.map (·.rn)
def ResV.lines (e : ResV) : Prop := ∀ d ∈ e.ds, -9223372036854775808 ≤ d.1 ∧ d.1 ≤ 9223372036854775807

theorem slice_ownJ {w : World} {B e z : Nat} {v : Value} {n : Nat} {xs : List Value} (h : w.ownsRow B e z v n xs) : ∃ a cap, v = .slice a n cap := by
  rcases h.2 with ⟨e, h0⟩ | ⟨g, cap, cur, e, _⟩
  · exact ⟨none, 0, by rw [e, h0]⟩
  · exact ⟨_, _, e⟩
theorem text_nil {a : ByteArray} (h : a.toList = []) : a = ⟨#[]⟩ := by
  rw [ByteArray.toList_eq] at h
  obtain ⟨⟨x⟩⟩ := a
  have : x = [] := h
  rw [this]
theorem catL_cons (x : ByteArray) (r : List ByteArray) : catL (x :: r) = x.data.toList ++ catL r := rfl
theorem rt_size {n : Nat} {e : ResV} (h : e.lines) : (rtText e.rn e.ds).size ≤ 23 * resB n e + 5 ∧ 1 ≤ (rtText e.rn e.ds).size := by
  have h1 := catL_rtParts e.rn e.ds h
  have h2 : (rtText e.rn e.ds).size = (catL (rtParts e.rn e.ds)).length := by unfold rtText; show (List.toArray _).size = _; simp
  have h3 : resB n e = e.rn.size + (e.ds.length + (e.ds.map fun e => e.2.size).sum) + sumBulk n e.nm e.ts e.xs := rfl
  refine ⟨by omega, ?_⟩
  rw [h2]
  unfold rtParts rtHead
  rw [catL_append]
  have : (catL (e.rn :: ⟨#[58]⟩ :: dgsP e.ds)).length = e.rn.data.toList.length + (1 + (catL (dgsP e.ds)).length) := by
    rw [catL_cons, catL_cons, List.length_append, List.length_append]
    rfl
  rw [List.length_append, this]
  omega
theorem fr_size {n : Nat} (es : List ResV) (h : ∀ e ∈ es, e.lines) : (catL (frTexts es)).length ≤ 23 * sumA (resB n) es + 5 * es.length := by
  induction es with
  | nil => simp [frTexts, catL]
  | cons x r ih =>
    have h1 := (rt_size (n := n) (h x (List.mem_cons_self ..))).1
    have h2 := ih fun e he => h e (List.mem_cons_of_mem _ he)
    have h3 : (catL (frTexts (x :: r))).length = (rtText x.rn x.ds).size + (catL (frTexts r)).length := by
      show (catL (rtText x.rn x.ds :: frTexts r)).length = _
      rw [catL_cons, List.length_append]
      rfl
    have h4 : sumA (resB n) (x :: r) = resB n x + sumA (resB n) r := by unfold sumA; rw [List.map_cons, List.sum_cons]
    rw [h3, h4, List.length_cons]
    omega
theorem frTexts_take (es : List ResV) (k : Nat) : (frTexts es).take k = frTexts (es.take k) := by unfold frTexts; rw [List.map_take]
theorem frTexts_length (es : List ResV) : (frTexts es).length = es.length := by unfold frTexts; rw [List.length_map]
/-- the least that a fault has -/
def leB (e : ResV) : Nat := e.rn.size + 3 * e.ds.length
theorem leB_sum {n : Nat} (es : List ResV) : sumA leB es ≤ 3 * sumA (resB n) es := by
  induction es with
  | nil => simp [sumA]
  | cons x r ih =>
    have h3 : resB n x = x.rn.size + (x.ds.length + (x.ds.map fun e => e.2.size).sum) + sumBulk n x.nm x.ts x.xs := rfl
    have h1 : sumA leB (x :: r) = leB x + sumA leB r := by unfold sumA; rw [List.map_cons, List.sum_cons]
    have h2 : sumA (resB n) (x :: r) = resB n x + sumA (resB n) r := by unfold sumA; rw [List.map_cons, List.sum_cons]
    have h4 : leB x = x.rn.size + 3 * x.ds.length := rfl
    omega

set_option maxHeartbeats 3200000 in
set_option maxRecDepth 100000 in
open Classical in
theorem implReportOf (n : Nat) (e : FarmV) (w : World) (p : Addr) (h : e.at w n) (hbk : farmB n e ≤ 1048576) (hln : ∀ r ∈ e.done, r.lines) (hg : w.cell? ⟨0, 0, none⟩ = some (.iface 207 (.pointer (some p)))) (htab : Lib.TabIs Tryz.prog w "internal/strconv.uint64pow10" .u64 Lib.pow10Tab) :
    Calls Tryz.prog 23 #[.agg e.cells.toArray] w fun r w' => ((AllDone e.set e.done ∧ r = .returned (.tuple #[.string (frText e.done), .nilIface])) ∨ (¬ AllDone e.set e.done ∧ r = .returned (.tuple #[.string ⟨#[]⟩, .iface 207 (.pointer (some p))]))) ∧ Below w.heap.size w w' := by
  obtain ⟨i0, hi0, hz0, hz1, hz2⟩ := info_parts Tryz.infoString
  obtain ⟨p1, p2, p3, p4, p5, p6, hrs, hbR, _⟩ := farm_parts hbk
  obtain ⟨vS, set, wait, vU, up, clock, epoch, vL, leases, vR, done, vN, net, room, vI, items⟩ := e
  simp only at p1 p2 p3 p4 p5 p6 hrs hln hbR
  obtain ⟨hS, hU, hL, hR, hN, hI⟩ := h
  simp only at hS hU hL hR hN hI
  obtain ⟨aS, cS, rfl, _⟩ := srcOpen hS
  obtain ⟨aU, cU, rfl, _⟩ := rowA_open hU
  obtain ⟨aL, cL, rfl, _⟩ := rowA_open hL
  obtain ⟨aR, cR, rfl, hRe⟩ := rowA_open hR.1
  obtain ⟨aN, cN, rfl, _⟩ := rowA_open hN
  obtain ⟨aI, cI, rfl, _⟩ := itOpen hI
  show Calls Tryz.prog 23 #[.agg #[.slice aS set.length cS, .int .i64 wait, .slice aU up.length cU, .int .i64 clock, .int .i64 epoch, .slice aL leases.length cL, .slice aR done.length cR, .slice aN net.length cN, .int .i64 room, .slice aI items.length cI]] w fun r w' => ((AllDone set done ∧ r = .returned (.tuple #[.string (frText done), .nilIface])) ∨ (¬ AllDone set done ∧ r = .returned (.tuple #[.string ⟨#[]⟩, .iface 207 (.pointer (some p))]))) ∧ Below w.heap.size w w'
  obtain ⟨W1, hW1⟩ : ∃ W1, W1 = w.alloc (.cells #[.slice aS set.length cS, .int .i64 wait, .slice aU up.length cU, .int .i64 clock, .int .i64 epoch, .slice aL leases.length cL, .slice aR done.length cR, .slice aN net.length cN, .int .i64 room, .slice aI items.length cI] 43) := ⟨_, rfl⟩
  have hb1 : Below w.heap.size w W1 := by rw [hW1]; exact (Below.refl _ _).alloc (Nat.le_refl _) _
  have hz1' : W1.heap.size = w.heap.size + 1 := by rw [hW1]; simp
  have hrow : W1.heap[w.heap.size]? = some (.cells #[.slice aS set.length cS, .int .i64 wait, .slice aU up.length cU, .int .i64 clock, .int .i64 epoch, .slice aL leases.length cL, .slice aR done.length cR, .slice aN net.length cN, .int .i64 room, .slice aI items.length cI] 43 (0, 0)) := by rw [hW1]; exact (MapKept.heap_alloc w _).1
  have HB : Hid (∀ X, Below W1.heap.size W1 X → (X.cell? ⟨w.heap.size, 0, none⟩ = some (.slice aS set.length cS) ∧ X.cell? ⟨w.heap.size, 6, none⟩ = some (.slice aR done.length cR)) ∧ Below w.heap.size w X) := fun X hX => by
    have hr := (hX.block w.heap.size (by omega)).trans hrow
    refine ⟨⟨?_, ?_⟩, hb1.trans (hX.mono (by omega))⟩
    · rw [cell_of_row X _ 0 _ _ (0, 0) hr]; rfl
    · rw [cell_of_row X _ 6 _ _ (0, 0) hr]; rfl
  have HDN : Hid (∀ X, Below W1.heap.size W1 X → _) := fun X hX => implDoneNames n _ done X (hR.below (hb1.trans (hX.mono (by omega)))) p4
  obtain ⟨bA, hbA⟩ : ∃ bA : Bool, bA = true ↔ AllDone set done := ⟨decide (AllDone set done), decide_eq_true_iff⟩
  have HBA : Hid (bA = true ↔ AllDone set done) := hbA
  have HAD : Hid (∀ (X : World) (M : Nat) (D : List (ByteArray × Value)), Below W1.heap.size W1 X → TMap X M D → CntD D (done.map (·.rn)) → Calls Tryz.prog 43 #[.slice aS set.length cS, .map (some M)] X fun e w' => e = .returned (.bool bA) ∧ Below X.heap.size X w') := fun X M D hX hM hD => (implAreDone _ set M D _ X (hS.below (hb1.trans (hX.mono (by omega)))) hM hD p1).mono fun e w' ⟨h1, h2⟩ => ⟨by
      rw [h1]
      congr 2
      exact Bool.eq_iff_iff.2 (decide_eq_true_iff.trans HBA.out.symm), h2⟩
  clear hbA
  have HGL : Hid (∀ X, Below W1.heap.size W1 X → X.cell? ⟨0, 0, none⟩ = some (.iface 207 (.pointer (some p)))) := fun X hX => ((hb1.trans (hX.mono (by omega))).cell (p := ⟨0, 0, none⟩) (World.block_lt_of_cell? w ⟨0, 0, none⟩ hg)).trans hg
  have HTB : Hid (∀ X, Below W1.heap.size W1 X → Lib.TabIs Tryz.prog X "internal/strconv.uint64pow10" .u64 Lib.pow10Tab) := fun X hX => Lib.tabBelow_of_tabIs htab _ (hb1.trans (hX.mono (by omega)))
  have HRE : Hid (type_of% hRe) := hRe
  have HAT : Hid (∀ X, Below W1.heap.size W1 X → ∀ r ∈ done, r.at X n) := fun X hX r hr => (hR.2 r hr).below (hb1.trans (hX.mono (by omega)))
  have HRS : Hid (∀ r ∈ done, r.rn.size ≤ 1048576 ∧ dgsBulk r.ds ≤ 1048576 ∧ r.ds.length ≤ 1048576 ∧ r.lines) := fun r hr => by
    obtain ⟨m1, m2, m3, m4, m5⟩ := resB_parts (hrs r hr)
    exact ⟨m4, m5, m1, hln r hr⟩
  have HLE : Hid (∀ k, sumA leB (done.take k) ≤ 3145728) := fun k => by
    have h1 := leB_sum (n := n) (done.take k)
    have h2 := sumA_le (resB n) done k
    unfold bulkA at hbR
    omega
  have HFR : Hid (∀ k, (catL ((frTexts done).take k)).length ≤ 29360128) := fun k => by
    have h1 := catL_take_le (frTexts done) k
    have h2 := fr_size (n := n) done hln
    unfold bulkA at hbR
    omega
  have hX1 : Below W1.heap.size W1 W1 := Below.refl _ _
  obtain ⟨⟨q0, q6⟩, _⟩ := HB.out W1 hX1
  have hQ0 : W1.cell? ⟨w.heap.size, 0, none⟩ = some (.slice aS set.length cS) ∧ W1.cell? ⟨w.heap.size, 6, none⟩ = some (.slice aR done.length cR) := ⟨q0, q6⟩
  clear hS hU hL hR hN hI hRe hb1 hrow hg htab hrs hln hbR hbk
  go_enter Tryz.func23, Tryz.ntmps23
  go_wp2_with fail
  rw [← hW1]
  clear hW1
  go_region_held3 (fun w' => w'.cell? ⟨w.heap.size, 0, none⟩ = some (.slice aS set.length cS) ∧ w'.cell? ⟨w.heap.size, 6, none⟩ = some (.slice aR done.length cR))
    (first
      | exact hQ0
      | exact (HB.out _ (Below.refl _ _).drew).1
      | exact (HB.out _ (by assumption)).1)
    (first
      | (go_at_call 44; refine (HDN.out _ (Below.refl _ _).drew).mono ?_; rintro e w3 ⟨M, D, rfl, hM, hD, hb3⟩; have hX3 : Below W1.heap.size W1 w3 := (Below.refl _ _).drew.trans hb3)
      | (go_at_call 43; refine (HAD.out w3 M D hX3 hM hD).mono ?_; rintro e w4 ⟨rfl, hb4⟩; have hX4 : Below W1.heap.size W1 w4 := hX3.trans (hb4.mono hX3.size)))
  clear HDN HAD hQ0 q0 q6 hX3 hb3 hb4 hM hD
  cases bA
  · have hgl := HGL.out _ hX4
    have HNA : Hid (¬ AllDone set done) := fun h => by have := HBA.out.2 h; simp at this
    have hbw := (HB.out _ hX4).2
    clear HTB HRE HAT HRS HLE HFR HGL HB HBA
    go_wp2_with fail
    go_quiet (fail)
    go_wp2_with fail
    go_ret2
    exact ⟨.inr ⟨HNA.out, rfl⟩, hbw.trans (below_drewN (Below.refl _ _) _)⟩
  · have HNA : Hid (AllDone set done) := HBA.out.1 rfl
    obtain ⟨⟨c0, c6⟩, _⟩ := HB.out _ hX4
    clear HGL HBA
    go_wp2_with fail
    go_loopw [4, 23] (fun v i wr => ∃ k : Nat, k ≤ done.length ∧ i = .int .i64 k ∧ v = .int .i64 ((sumA leB (done.take k) : Nat) : Int) ∧ Below W1.heap.size W1 wr) (fun _ i _ => done.length - (intOf i).toNat)
    case atStart => exact ⟨0, Nat.zero_le _, rfl, rfl, hX4⟩
    case round =>
      obtain ⟨k, hk, rfl, rfl, hbe⟩ := hrel
      clear c0 c6 hX4
      obtain ⟨⟨c0, c6⟩, hbw⟩ := HB.out wr hbe
      have hle := HLE.out k
      by_cases hlt : k < done.length
      · obtain ⟨ba, oa, rfl, hba, p⟩ := HRE.out k hlt
        have A0 := (hbw.cell (p := ⟨ba, oa + k * 6 + 0, none⟩) hba).trans (p 0 _ rfl)
        have A1 := (hbw.cell (p := ⟨ba, oa + k * 6 + 1, none⟩) hba).trans (p 1 _ rfl)
        have A2 := (hbw.cell (p := ⟨ba, oa + k * 6 + 2, none⟩) hba).trans (p 2 _ rfl)
        have A3 := (hbw.cell (p := ⟨ba, oa + k * 6 + 3, none⟩) hba).trans (p 3 _ rfl)
        have A4 := (hbw.cell (p := ⟨ba, oa + k * 6 + 4, none⟩) hba).trans (p 4 _ rfl)
        have A5 := (hbw.cell (p := ⟨ba, oa + k * 6 + 5, none⟩) hba).trans (p 5 _ rfl)
        rw [Nat.add_zero] at A0
        obtain ⟨aD, cD, aT, cT, aX, cX, v1, v2, v3⟩ := resSl (HAT.out W1 (Below.refl _ _) done[k] (List.getElem_mem hlt))
        rw [v1] at A1
        rw [v2] at A4
        rw [v3] at A5
        obtain ⟨m1, m2, m3, m4⟩ := HRS.out done[k] (List.getElem_mem hlt)
        have hT : sumA leB (done.take (k + 1)) = sumA leB (done.take k) + (done[k].rn.size + 3 * done[k].ds.length) := by
          rw [List.take_succ_eq_append_getElem hlt]
          unfold sumA
          rw [List.map_append, List.sum_append]
          rfl
        have hle1 := HLE.out (k + 1)
        rw [hT] at hle1
        have HTK : Hid (type_of% hT) := hT
        have hbA : Below W1.heap.size W1 (wr.alloc (.cells #[.string done[k].rn, .slice aD done[k].ds.length cD, .string done[k].nm, .bool done[k].bad, .slice aT done[k].ts.length cT, .slice aX done[k].xs.length cX] 63)) := hbe.alloc hbe.size _
        obtain ⟨WA, hWA⟩ : ∃ WA, WA = wr.alloc (.cells #[.string done[k].rn, .slice aD done[k].ds.length cD, .string done[k].nm, .bool done[k].bad, .slice aT done[k].ts.length cT, .slice aX done[k].xs.length cX] 63) := ⟨_, rfl⟩
        rw [← hWA] at hbA
        have hcA0 : WA.cell? ⟨wr.heap.size, 0, none⟩ = some (.string done[k].rn) := by rw [hWA, newA _ rfl]; rfl
        have hcA1 : WA.cell? ⟨wr.heap.size, 1, none⟩ = some (.slice aD done[k].ds.length cD) := by rw [hWA, newA _ rfl]; rfl
        clear p m2 m4 hT v1 v2 v3 HTB HRE HAT HRS HLE HFR HB hbw
        generalize done[k].ds.length = dl at *
        generalize done[k].ts.length = tl at *
        generalize done[k].xs.length = xl at *
        generalize done[k].rn = xa at *
        generalize done[k].nm = xc at *
        generalize done[k].bad = xd at *
        generalize sumA leB (done.take k) = S at *
        have hk0 : (0 : Int) ≤ k := by omega
        have hk1 : (k : Int) < done.length := by omega
        subst hWA
        go_wp2_with fail
        go_roundw
        case rel => exact ⟨k + 1, by omega, by go_num, by rw [HTK.out]; go_num, hbA⟩
        case measure => simp [intOf]; omega
      · obtain rfl : k = done.length := by omega
        have HLL : Hid (type_of% hle) := hle
        generalize sumA leB (done.take done.length) = S at *
        have hnl : ¬ ((8589934592 : Int) < (S : Int)) := by omega
        have hnl2 : ((S : Int) > (8589934592 : Int)) = False := by simp; omega
        have hnl3 : decide ((8589934592 : Int) < (S : Int)) = false := by simp; omega
        clear hk hle hlt HLL
        go_wp2_with fail
        have q8 : wr.ownsRow W1.heap.size 9 1 (.slice none 0 0) 0 [] := World.ownsRow_nil _ _ _ _
        go_loopw [7, 8, 44] (fun rm v i wx => ∃ k : Nat, k ≤ done.length ∧ i = .int .i64 k ∧ rm = .int .i64 (8589934592 - ((catL ((frTexts done).take k)).length : Nat)) ∧ wx.ownsRow W1.heap.size 9 1 v ((frTexts done).take k).length (strV ((frTexts done).take k)) ∧ Below W1.heap.size W1 wx) (fun _ _ i _ => done.length - (intOf i).toNat)
        case atStart => exact ⟨0, Nat.zero_le _, rfl, by rw [List.take_zero]; rfl, q8, hbe⟩
        case round =>
          obtain ⟨k, hk, rfl, rfl, hown, hbx⟩ := hrel
          clear q8 hbe hbw c0 c6 hnl hnl2 hnl3
          obtain ⟨⟨c0, c6⟩, hbw2⟩ := HB.out wr hbx
          have hfr := HFR.out k
          have hfr1 := HFR.out (k + 1)
          have hszw : W1.heap.size ≤ wr.heap.size := hbx.size
          by_cases hlt : k < done.length
          · obtain ⟨ba, oa, rfl, hba, p⟩ := HRE.out k hlt
            have A0 := (hbw2.cell (p := ⟨ba, oa + k * 6 + 0, none⟩) hba).trans (p 0 _ rfl)
            have A1 := (hbw2.cell (p := ⟨ba, oa + k * 6 + 1, none⟩) hba).trans (p 1 _ rfl)
            have A2 := (hbw2.cell (p := ⟨ba, oa + k * 6 + 2, none⟩) hba).trans (p 2 _ rfl)
            have A3 := (hbw2.cell (p := ⟨ba, oa + k * 6 + 3, none⟩) hba).trans (p 3 _ rfl)
            have A4 := (hbw2.cell (p := ⟨ba, oa + k * 6 + 4, none⟩) hba).trans (p 4 _ rfl)
            have A5 := (hbw2.cell (p := ⟨ba, oa + k * 6 + 5, none⟩) hba).trans (p 5 _ rfl)
            rw [Nat.add_zero] at A0
            obtain ⟨aD, cD, aT, cT, aX, cX, v1, v2, v3⟩ := resSl (HAT.out W1 (Below.refl _ _) done[k] (List.getElem_mem hlt))
            obtain ⟨m1, m2, m3, m4⟩ := HRS.out done[k] (List.getElem_mem hlt)
            have HRT : Hid (∀ (X : World) (rm : Int), Below W1.heap.size W1 X → 100000000 ≤ rm → rm ≤ 9000000000000 → Calls Tryz.prog 45 #[.agg #[.string done[k].rn, .slice aD done[k].ds.length cD, .string done[k].nm, .bool done[k].bad, .slice aT done[k].ts.length cT, .slice aX done[k].xs.length cX], .int .i64 rm] X fun e w' => e = .returned (.string (rtText done[k].rn done[k].ds)) ∧ Below X.heap.size X w') := fun X rm hX h1 h2 => implResultTextIn done[k].rn _ _ _ _ _ done[k].ds rm X (v1 ▸ (HAT.out X hX done[k] (List.getElem_mem hlt)).1) m1 m2 m4 h1 h2 (HTB.out X hX)
            rw [v1] at A1
            rw [v2] at A4
            rw [v3] at A5
            have hsz1 := (rt_size (n := n) m4).2
            have hlt2 : k < (frTexts done).length := by rw [frTexts_length]; exact hlt
            have hT : (frTexts done).take (k + 1) = (frTexts done).take k ++ [rtText done[k].rn done[k].ds] := by
              rw [List.take_succ_eq_append_getElem hlt2]
              congr 2
              simp [frTexts]
            have hTC : (catL ((frTexts done).take (k + 1))).length = (catL ((frTexts done).take k)).length + (rtText done[k].rn done[k].ds).size := by
              rw [hT, catL_append, List.length_append, catL_cons, List.length_append]
              rfl
            rw [hTC] at hfr1
            have HTK : Hid (type_of% hT) := hT
            have HTC : Hid (type_of% hTC) := hTC
            have hbA : Below W1.heap.size W1 (wr.alloc (.cells #[.string done[k].rn, .slice aD done[k].ds.length cD, .string done[k].nm, .bool done[k].bad, .slice aT done[k].ts.length cT, .slice aX done[k].xs.length cX] 63)) := hbx.alloc hbx.size _
            obtain ⟨WA, hWA⟩ : ∃ WA, WA = wr.alloc (.cells #[.string done[k].rn, .slice aD done[k].ds.length cD, .string done[k].nm, .bool done[k].bad, .slice aT done[k].ts.length cT, .slice aX done[k].xs.length cX] 63) := ⟨_, rfl⟩
            rw [← hWA] at hbA
            have HCA : Hid (∀ X, Below WA.heap.size WA X → (X.cell? ⟨wr.heap.size, 0, none⟩ = some (.string done[k].rn) ∧ X.cell? ⟨wr.heap.size, 1, none⟩ = some (.slice aD done[k].ds.length cD) ∧ X.cell? ⟨wr.heap.size, 2, none⟩ = some (.string done[k].nm) ∧ X.cell? ⟨wr.heap.size, 3, none⟩ = some (.bool done[k].bad) ∧ X.cell? ⟨wr.heap.size, 4, none⟩ = some (.slice aT done[k].ts.length cT) ∧ X.cell? ⟨wr.heap.size, 5, none⟩ = some (.slice aX done[k].xs.length cX))) := fun X hX => by
              have hg : ∀ j, j < 6 → X.cell? ⟨wr.heap.size, j, none⟩ = WA.cell? ⟨wr.heap.size, j, none⟩ := fun j hj => hX.cell (p := ⟨wr.heap.size, j, none⟩) (by rw [hWA]; simp)
              refine ⟨?_, ?_, ?_, ?_, ?_, ?_⟩
              all_goals
                rw [hg _ (by omega), hWA, newA _ rfl]
                rfl
            obtain ⟨az, capz, rfl⟩ := slice_ownJ hown
            have hown2 : WA.ownsRow W1.heap.size 9 1 (.slice az ((frTexts done).take k).length capz) ((frTexts done).take k).length (strV ((frTexts done).take k)) := by rw [hWA]; exact hown.alloc _
            have hlen : ((frTexts done).take k).length ≤ 1048576 := by rw [List.length_take]; omega
            have hszA : wr.heap.size < WA.heap.size := by rw [hWA]; simp
            clear p m1 m2 m3 m4 hT hTC v1 v2 v3 HTB HRE HAT HRS HLE HFR HB hbw2 hown hlt2
            obtain ⟨e0, e1, e2, e3, e4, e5⟩ := HCA.out WA (Below.refl _ _)
            generalize done[k].ds.length = dl at *
            generalize done[k].ts.length = tl at *
            generalize done[k].xs.length = xl at *
            generalize rtText done[k].rn done[k].ds = T at *
            generalize done[k].rn = xa at *
            generalize done[k].nm = xc at *
            generalize done[k].bad = xd at *
            generalize (catL ((frTexts done).take k)).length = S2 at *
            have hk0 : (0 : Int) ≤ k := by omega
            have hk1 : (k : Int) < done.length := by omega
            have hne : ¬ T = ⟨#[]⟩ := fun h => by rw [h] at hsz1; exact absurd hsz1 (by decide)
            have hne2 : T.toList.isEmpty = false := by
              rw [List.isEmpty_eq_false_iff]
              exact fun h => hne (text_nil h)
            have HRT2 : Hid (Calls Tryz.prog 45 #[.agg #[.string xa, .slice aD dl cD, .string xc, .bool xd, .slice aT tl cT, .slice aX xl cX], .int .i64 (8589934592 - (S2 : Int))] WA fun e w' => e = .returned (.string T) ∧ Below WA.heap.size WA w') := HRT.out WA _ hbA (by omega) (by omega)
            have HSZ : Hid (∀ X, Below WA.heap.size WA X → W1.heap.size ≤ X.heap.size ∧ Below W1.heap.size W1 X ∧ X.ownsRow W1.heap.size 9 1 (.slice az ((frTexts done).take k).length capz) ((frTexts done).take k).length (strV ((frTexts done).take k))) := fun X hX => ⟨Nat.le_trans hbA.size hX.size, hbA.trans (hX.mono hbA.size), dgKept hown2 hX⟩
            clear HRT hown2 hbA hbx HCA
            generalize (frTexts done).take k = L at *
            subst hWA
            go_wp2_with (first | (go_at_call 45; refine HRT2.out.mono ?_; rintro e w4 ⟨rfl, hb4⟩; obtain ⟨z1, z2, z3⟩ := HSZ.out w4 hb4) | (at_builtin; refine wpList_append_own _ rfl _ _ 111 rfl W1.heap.size 9 i0 (.string ⟨#[]⟩) 1 16 Tryz.underlying111 hi0 hz0 hz1 hz2 rfl (by decide) _ _ _ rfl (z3.alloc _) ⟨w4.heap.size, 0, none⟩ 1 1 [.string T] rfl rfl ?c1 ?c2 ?c3 ?c4 ?c5 ?_))
            case c1 =>
              intro j u hj
              match j, hj with
              | 0, hj => simp at hj; subst hj; simp [Addr.add]
            case c2 => intro u hu; simp at hu; subst hu; rfl
            case c3 => unfold maxLen; omega
            case c4 => omega
            case c5 => simp; omega
            intro v' w5 hown' hgrow _
            have R1 : w5.ownsRow W1.heap.size 9 1 v' (L ++ [T]).length (strV (L ++ [T])) := by
              rw [strV_append2, List.length_append, hz1']
              exact hown'
            have R2 : Below W1.heap.size W1 w5 := (z2.alloc z1 _).grown hgrow (by simp; omega) (fun j hj => (z3.lt j hj).1)
            clear hown' hgrow z1 z2 z3 HSZ HRT2
            go_wp2_with fail
            go_roundw
            case rel => exact ⟨k + 1, by omega, by go_num, by rw [HTC.out]; go_num, by rw [HTK.out]; exact R1, R2⟩
            case measure => simp [intOf]; omega
          · obtain rfl : k = done.length := by omega
            have hfr2 := HFR.out done.length
            rw [List.take_of_length_le (by rw [frTexts_length]; exact Nat.le_refl _)] at hown hfr2
            have HFT : Hid (frText done = ⟨(catL (frTexts done)).toArray⟩) := rfl
            have HNA2 : Hid (AllDone set done) := HNA.out
            have hll : (frTexts done).length ≤ 1048576 := by rw [frTexts_length]; exact p4
            clear HTB HRE HAT HRS HLE HFR HB hfr1 hfr hk hlt HNA
            generalize frTexts done = L at *
            rcases hown.2 with ⟨e, h0⟩ | ⟨g, cap, cur, e, hg, hh, _⟩
            · subst e
              obtain rfl : L = [] := List.length_eq_zero_iff.1 h0
              go_wp2_with (go_at_call 46; refine (implJoinNil _).mono ?_; rintro e w4 ⟨rfl, hb4⟩)
              go_ret2
              exact ⟨.inl ⟨HNA2.out, by rw [HFT.out]; rfl⟩, hbw2.trans (hb4.mono hbw2.size)⟩
            · subst e
              have hcs : ∀ j (h : j < L.length), wr.cell? ⟨g, 0 + j, none⟩ = some (.string L[j]) := fun j hj => by
                rw [Nat.zero_add, hown.cellAt j (by omega)]
                exact strV_get L j hj
              have HJ : Hid (Calls Tryz.prog 46 #[.slice (some ⟨g, 0, none⟩) L.length cap] wr fun e w' => e = .returned (.string (frText done)) ∧ Below wr.heap.size wr w') := by
                rw [HFT.out]
                exact implJoin g 0 cap L wr hcs (by omega) (by omega)
              clear hcs hown
              go_wp2_with (go_at_call 46; refine HJ.out.mono ?_; rintro e w4 ⟨rfl, hb4⟩)
              go_ret2
              exact ⟨.inl ⟨HNA2.out, rfl⟩, hbw2.trans (hb4.mono hbw2.size)⟩

end Go.Proofs.YtikoacgfnojoeaaGreatDoor

namespace Go.Proofs.YtikoacgfnojoeaaGreatDoor
open Go.RowKit

/-- what FarmReport answers -/
def FrOut (set : List Src) (done : List ResV) (t : ByteArray) (b : Bool) : Prop := (AllDone set done ∧ t = frText done ∧ b = true) ∨ (¬ AllDone set done ∧ t = ⟨#[]⟩ ∧ b = false)
theorem frText_same {es es' : List ResV} (h : SameRs es es') : frTexts es = frTexts es' := by
  unfold frTexts
  apply List.ext_getElem
  · rw [List.length_map, List.length_map]; exact h.1
  · intro j h1 h2
    have h1' : j < es.length := by rw [List.length_map] at h1; exact h1
    have h2' : j < es'.length := by rw [List.length_map] at h2; exact h2
    obtain ⟨q1, q2, _⟩ := h.2 j h1' h2'
    rw [List.getElem_map, List.getElem_map, q1, q2]
theorem frNames_same {es es' : List ResV} (h : SameRs es es') : es.map (·.rn) = es'.map (·.rn) := by
  apply List.ext_getElem
  · rw [List.length_map, List.length_map]; exact h.1
  · intro j h1 h2
    have h1' : j < es.length := by rw [List.length_map] at h1; exact h1
    have h2' : j < es'.length := by rw [List.length_map] at h2; exact h2
    obtain ⟨q1, _⟩ := h.2 j h1' h2'
    rw [List.getElem_map, List.getElem_map, q1]
theorem FrOut.one {set : List Src} {es es' : List ResV} {t u : ByteArray} {a b : Bool} (h : FrOut set es t a) (k : FrOut set es' u b) (hs : SameRs es es') : t = u ∧ a = b := by
  have e1 : AllDone set es ↔ AllDone set es' := by unfold AllDone; rw [frNames_same hs]
  have e2 : frText es = frText es' := by unfold frText; rw [frText_same hs]
  rcases h with ⟨a1, a2, a3⟩ | ⟨a1, a2, a3⟩ <;> rcases k with ⟨b1, b2, b3⟩ | ⟨b1, b2, b3⟩
  · exact ⟨by rw [a2, b2, e2], by rw [a3, b3]⟩
  · exact absurd (e1.1 a1) b1
  · exact absurd (e1.2 b1) a1
  · exact ⟨by rw [a2, b2], by rw [a3, b3]⟩

set_option maxHeartbeats 1600000 in
set_option maxRecDepth 100000 in
theorem implFarmReport (n : Nat) (e : FarmV) (w : World) (p : Addr) (h : e.at w n) (hbk : farmB n e ≤ 1048576) (hln : ∀ r ∈ e.done, r.lines) (hg : w.cell? ⟨0, 0, none⟩ = some (.iface 207 (.pointer (some p)))) (htab : Lib.TabIs Tryz.prog w "internal/strconv.uint64pow10" .u64 Lib.pow10Tab) :
    Calls Tryz.prog 7 #[.agg e.cells.toArray] w fun r w' => (∃ t b, r = .returned (.tuple #[.string t, .bool b]) ∧ FrOut e.set e.done t b) ∧ Below w.heap.size w w' := by
  obtain ⟨W1, hW1⟩ : ∃ W1, W1 = w.alloc (.cells e.cells.toArray 43) := ⟨_, rfl⟩
  have hb1 : Below w.heap.size w W1 := by rw [hW1]; exact (Below.refl _ _).alloc (Nat.le_refl _) _
  have hz1 : W1.heap.size = w.heap.size + 1 := by rw [hW1]; simp
  have hg1 : W1.cell? ⟨0, 0, none⟩ = some (.iface 207 (.pointer (some p))) := (hb1.cell (p := ⟨0, 0, none⟩) (World.block_lt_of_cell? w ⟨0, 0, none⟩ hg)).trans hg
  have HR0 := implReportOf n e W1 p (h.below hb1) hbk hln hg1 (Lib.tabBelow_of_tabIs htab _ hb1)
  have HR : Hid (type_of% HR0) := HR0
  have HGL : Hid (∀ X, Below W1.heap.size W1 X → X.cell? ⟨0, 0, none⟩ = some (.iface 207 (.pointer (some p)))) := fun X hX => (hX.cell (p := ⟨0, 0, none⟩) (World.block_lt_of_cell? W1 ⟨0, 0, none⟩ hg1)).trans hg1
  have HB1 : Hid (type_of% hb1) := hb1
  have HZ1 : Hid (type_of% hz1) := hz1
  clear h hbk hln hg htab hg1 hb1 hz1 HR0
  obtain ⟨vS, set, wait, vU, up, clock, epoch, vL, leases, vR, done, vN, net, room, vI, items⟩ := e
  revert HR
  show Hid (Calls Tryz.prog 23 #[.agg #[vS, .int .i64 wait, vU, .int .i64 clock, .int .i64 epoch, vL, vR, vN, .int .i64 room, vI]] W1 fun r w' => ((AllDone set done ∧ r = .returned (.tuple #[.string (frText done), .nilIface])) ∨ (¬ AllDone set done ∧ r = .returned (.tuple #[.string ⟨#[]⟩, .iface 207 (.pointer (some p))]))) ∧ Below W1.heap.size W1 w') → Calls Tryz.prog 7 #[.agg #[vS, .int .i64 wait, vU, .int .i64 clock, .int .i64 epoch, vL, vR, vN, .int .i64 room, vI]] w fun r w' => (∃ t b, r = .returned (.tuple #[.string t, .bool b]) ∧ FrOut set done t b) ∧ Below w.heap.size w w'
  intro HR
  have HW1 : Hid (W1 = w.alloc (.cells #[vS, .int .i64 wait, vU, .int .i64 clock, .int .i64 epoch, vL, vR, vN, .int .i64 room, vI] 43)) := hW1
  clear hW1
  go_enter Tryz.func7, Tryz.ntmps7
  go_wp2_with (go_at_call 23; rw [← HW1.out]; refine HR.out.mono ?_; clear HW1; rintro r w2 ⟨hr, hb2⟩; have hgl := HGL.out w2 hb2; rcases hr with ⟨hA, rfl⟩ | ⟨hA, rfl⟩)
  · go_wp2_with (go_at_call 24; refine (esNil p _).mono ?_; rintro r w3 ⟨rfl, rfl⟩)
    go_ret2
    exact ⟨⟨_, _, rfl, .inl ⟨hA, rfl, rfl⟩⟩, HB1.out.trans (hb2.mono (by have := HZ1.out; omega))⟩
  · go_wp2_with (go_at_call 24; refine (esSame p _).mono ?_; rintro r w3 ⟨rfl, rfl⟩)
    go_ret2
    exact ⟨⟨_, _, rfl, .inr ⟨hA, rfl, rfl⟩⟩, HB1.out.trans (hb2.mono (by have := HZ1.out; omega))⟩

end Go.Proofs.YtikoacgfnojoeaaGreatDoor

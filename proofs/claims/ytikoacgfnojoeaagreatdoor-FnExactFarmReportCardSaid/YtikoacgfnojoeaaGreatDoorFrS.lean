/-
  The walk of spec.l10Find.
  The walk of spec.FarmReport.
-/
import Derived.Test.YtikoacgfnojoeaaGreatDoorFrC
import Derived.Test.YtikoacgfnojoeaaGreatDoorFrM
import Derived.Test.YtikoacgfnojoeaaGreatDoorFmW
import Derived.Test.YtikoacgfnojoeaaGreatDoorFrJ
import Derived.Test.YtikoacgfnojoeaaGreatDoorRtS
namespace Go.Proofs.YtikoacgfnojoeaaGreatDoor
open Go.RowKit

theorem ret_l10Find {R : Ending → World → Prop} {W : World} {tmps : Array Value} {b : Nat} {x0 x1 x2 x3 : Value} {ok : Bool} (hp : tmps[4]?.getD undef = .pointer (some ⟨b, 0, none⟩)) (hq : tmps[5]?.getD undef = .bool ok)
    (h : W.cell? ⟨b, 0, none⟩ = some x0 ∧ W.cell? ⟨b, 1, none⟩ = some x1 ∧ W.cell? ⟨b, 2, none⟩ = some x2 ∧ W.cell? ⟨b, 3, none⟩ = some x3) (hR : R (.returned (.tuple #[.agg #[x0, x1, x2, x3], .bool ok])) W) :
    bodyPost Tryz.prog Tryz.f15 R .ret { tmps := tmps, defers := [] } W := by
  obtain ⟨h0, h1, h2, h3⟩ := h
  refine bodyPost_ret (v := .tuple #[.agg #[x0, x1, x2, x3], .bool ok]) ?_ rfl hR
  simp [results, Tryz.results15, go_sem, hp, hq, h0, h1, h2, h3]
theorem text_other {a b : ByteArray} (h : ¬ a = b) : (a.toList == b.toList) = false := by
  rw [beq_eq_false_iff_ne]
  intro e
  refine h ?_
  rw [ByteArray.toList_eq, ByteArray.toList_eq] at e
  obtain ⟨⟨x⟩⟩ := a
  obtain ⟨⟨y⟩⟩ := b
  simp only at e
  rw [e]

set_option maxHeartbeats 1600000 in
set_option maxRecDepth 100000 in
theorem specFind (n : Nat) (v : Value) (es : List ResV) (nm : ByteArray) (w : World) (h : ResAt w n v es) (hl : es.length ≤ 1048576) (hb : ∀ r ∈ es, resB n r ≤ 1048576) :
    Calls Tryz.prog 15 #[v, .string nm] w fun e w' => (∃ (x0 : ByteArray) (x1 : Bool) (a2 : Option Addr) (n2 c2 : Nat) (a3 : Option Addr) (n3 c3 : Nat) (ok : Bool), e = .returned (.tuple #[.agg #[.string x0, .bool x1, .slice a2 n2 c2, .slice a3 n3 c3], .bool ok]) ∧ (ok = true ↔ nm ∈ es.map (·.rn))) ∧ Below w.heap.size w w' := by
  obtain ⟨av, capv, rfl, hel⟩ := rowA_open h.1
  have HEL : Hid (type_of% hel) := hel
  have HAT : Hid (∀ r ∈ es, r.at w n) := h.2
  have HBK : Hid (type_of% hb) := hb
  have hB1 : Below w.heap.size w (w.alloc (.cells #[.string ⟨#[]⟩, .bool false, .slice none 0 0, .slice none 0 0] 55)) := (Below.refl _ _).alloc (Nat.le_refl _) _
  have hR1 : (w.alloc (.cells #[.string ⟨#[]⟩, .bool false, .slice none 0 0, .slice none 0 0] 55)).heap[w.heap.size]? = some (.cells #[.string ⟨#[]⟩, .bool false, .slice none 0 0, .slice none 0 0] 55 (0, 0)) := (MapKept.heap_alloc w _).1
  clear hel h hb
  go_enter Tryz.func15, Tryz.ntmps15
  go_wp2_with fail
  generalize (w.alloc (.cells #[.string ⟨#[]⟩, .bool false, .slice none 0 0, .slice none 0 0] 55)) = W1 at *
  have r0 : W1.cell? ⟨w.heap.size, 0, none⟩ = some (.string ⟨#[]⟩) := by rw [cell_of_row _ _ 0 _ _ (0, 0) hR1]; rfl
  have r1 : W1.cell? ⟨w.heap.size, 1, none⟩ = some (.bool false) := by rw [cell_of_row _ _ 1 _ _ (0, 0) hR1]; rfl
  have r2 : W1.cell? ⟨w.heap.size, 2, none⟩ = some (.slice none 0 0) := by rw [cell_of_row _ _ 2 _ _ (0, 0) hR1]; rfl
  have r3 : W1.cell? ⟨w.heap.size, 3, none⟩ = some (.slice none 0 0) := by rw [cell_of_row _ _ 3 _ _ (0, 0) hR1]; rfl
  have f0 := frozen_of_row _ _ 0 _ _ hR1
  have f1 := frozen_of_row _ _ 1 _ _ hR1
  have f2 := frozen_of_row _ _ 2 _ _ hR1
  have f3 := frozen_of_row _ _ 3 _ _ hR1
  have hzW : w.heap.size < W1.heap.size := (Array.getElem?_eq_some_iff.1 hR1).1
  have HR1 : Hid (type_of% hR1) := hR1
  go_loopw [6] (fun i wr => ∃ k : Nat, k ≤ es.length ∧ i = .int .i64 k ∧ (∀ j (h : j < es.length), j < k → es[j].rn ≠ nm) ∧ wr = W1) (fun i _ => es.length - (intOf i).toNat)
  case atStart => exact ⟨0, Nat.zero_le _, rfl, fun j _ h => absurd h (by omega), rfl⟩
  case round =>
    obtain ⟨k, hk, rfl, hall, rfl⟩ := hrel
    have HALL : Hid (type_of% hall) := hall
    clear hall
    by_cases hlt : k < es.length
    · obtain ⟨b, off, rfl, hbl, p⟩ := HEL.out k hlt
      have c0 := (hB1.cell (p := ⟨b, off + k * 6 + 0, none⟩) hbl).trans (p 0 _ rfl)
      have c2 := (hB1.cell (p := ⟨b, off + k * 6 + 2, none⟩) hbl).trans (p 2 _ rfl)
      have c3 := (hB1.cell (p := ⟨b, off + k * 6 + 3, none⟩) hbl).trans (p 3 _ rfl)
      have c4 := (hB1.cell (p := ⟨b, off + k * 6 + 4, none⟩) hbl).trans (p 4 _ rfl)
      have c5 := (hB1.cell (p := ⟨b, off + k * 6 + 5, none⟩) hbl).trans (p 5 _ rfl)
      rw [Nat.add_zero] at c0
      obtain ⟨aD, cD, aT, cT, aX, cX, v1, v2, v3⟩ := resSl (HAT.out es[k] (List.getElem_mem hlt))
      have hk0i : (0 : Int) ≤ (k : Int) := by omega
      have hk1i : (k : Int) < (es.length : Int) := by omega
      by_cases he : es[k].rn = nm
      · have hat := (HAT.out es[k] (List.getElem_mem hlt)).below hB1
        obtain ⟨m1, m2, m3, m4, m5⟩ := resB_parts (HBK.out es[k] (List.getElem_mem hlt))
        have HCP := specCopySum n es[k].nm es[k].bad es[k].vT es[k].vX es[k].ts es[k].xs wr hat.2.1 hat.2.2 m2 m3
        rw [v2, v3] at HCP
        rw [v2] at c4
        rw [v3] at c5
        have HCQ : Hid (type_of% HCP) := HCP
        have HA : Hid (nm ∈ es.map (·.rn)) := List.mem_map.2 ⟨es[k], List.getElem_mem hlt, he⟩
        have hcmp : (es[k].rn.toList == nm.toList) = true := by rw [he]; exact beq_self_eq_true _
        clear HCP he HALL HEL HAT HBK v1 v2 v3 m1 m2 m3 m4 m5 hat p hR1
        generalize es[k].rn = x at *
        generalize es[k].nm = xa at *
        generalize es[k].bad = xb at *
        generalize es[k].ts.length = tl at *
        generalize es[k].xs.length = xl at *
        go_wp2_with fail
        refine HCQ.out.mono ?_
        rintro e w2 ⟨a2, n2, c2, a3, n3, c3, rfl, hb2⟩
        have hbw2 : Below w.heap.size w w2 := hB1.trans (hb2.mono hB1.size)
        have hr2 := (hb2.block w.heap.size hzW).trans HR1.out
        clear r0 r1 r2 r3 f0 f1 f2 f3
        have r0 : w2.cell? ⟨w.heap.size, 0, none⟩ = some (.string ⟨#[]⟩) := by rw [cell_of_row _ _ 0 _ _ (0, 0) hr2]; rfl
        have r1 : w2.cell? ⟨w.heap.size, 1, none⟩ = some (.bool false) := by rw [cell_of_row _ _ 1 _ _ (0, 0) hr2]; rfl
        have r2 : w2.cell? ⟨w.heap.size, 2, none⟩ = some (.slice none 0 0) := by rw [cell_of_row _ _ 2 _ _ (0, 0) hr2]; rfl
        have r3 : w2.cell? ⟨w.heap.size, 3, none⟩ = some (.slice none 0 0) := by rw [cell_of_row _ _ 3 _ _ (0, 0) hr2]; rfl
        have f0 := frozen_of_row _ _ 0 _ _ hr2
        have f1 := frozen_of_row _ _ 1 _ _ hr2
        have f2 := frozen_of_row _ _ 2 _ _ hr2
        have f3 := frozen_of_row _ _ 3 _ _ hr2
        have y1 := put4R (x0 := .string xa) (x1 := .bool xb) (x2 := .slice a2 n2 c2) (x3 := .slice a3 n3 c3) hr2
        have hbe : Below w.heap.size w ((((w2.setCell ⟨w.heap.size, 0, none⟩ (.string xa)).setCell ⟨w.heap.size, 1, none⟩ (.bool xb)).setCell ⟨w.heap.size, 2, none⟩ (.slice a2 n2 c2)).setCell ⟨w.heap.size, 3, none⟩ (.slice a3 n3 c3)) := (((hbw2.setCell (by simp) _).setCell (by simp) _).setCell (by simp) _).setCell (by simp) _
        have HY : Hid (type_of% y1) := y1
        have HE : Hid (type_of% hbe) := hbe
        clear y1 hbe hr2
        go_wp2_with fail
        refine ret_l10Find (b := w.heap.size) rfl rfl ⟨?_, ?_, ?_, ?_⟩ ⟨⟨xa, xb, a2, n2, c2, a3, n3, c3, true, rfl, ⟨fun _ => HA.out, fun _ => rfl⟩⟩, HE.out⟩
        · rw [cell_of_row _ _ 0 _ _ (0, 0) HY.out]; rfl
        · rw [cell_of_row _ _ 1 _ _ (0, 0) HY.out]; rfl
        · rw [cell_of_row _ _ 2 _ _ (0, 0) HY.out]; rfl
        · rw [cell_of_row _ _ 3 _ _ (0, 0) HY.out]; rfl
      · have HA2 : Hid (∀ j (h : j < es.length), j < k + 1 → es[j].rn ≠ nm) := fun j hj hjk => by
          by_cases c : j = k
          · subst c; exact he
          · exact HALL.out j hj (by omega)
        have hcmp := text_other he
        clear he HALL HEL HAT HBK v1 v2 v3 p hR1
        generalize es[k].rn = x at *
        go_wp2_with fail
        go_roundw
        case rel => exact ⟨k + 1, by omega, by go_num, HA2.out, by trivial⟩
        case measure => simp [intOf]; omega
    · have HA : Hid (¬ nm ∈ es.map (·.rn)) := fun hm => by
        obtain ⟨r, hr, e⟩ := List.mem_map.1 hm
        obtain ⟨j, hj, rfl⟩ := List.getElem_of_mem hr
        exact HALL.out j hj (by omega) e
      have y1 := put4R (x0 := .string ⟨#[]⟩) (x1 := .bool false) (x2 := .slice none 0 0) (x3 := .slice none 0 0) hR1
      have hbe : Below w.heap.size w ((((wr.setCell ⟨w.heap.size, 0, none⟩ (.string ⟨#[]⟩)).setCell ⟨w.heap.size, 1, none⟩ (.bool false)).setCell ⟨w.heap.size, 2, none⟩ (.slice none 0 0)).setCell ⟨w.heap.size, 3, none⟩ (.slice none 0 0)) := (((hB1.setCell (by simp) _).setCell (by simp) _).setCell (by simp) _).setCell (by simp) _
      have HY : Hid (type_of% y1) := y1
      have HE : Hid (type_of% hbe) := hbe
      clear HALL HEL HAT HBK y1 hbe hR1
      go_wp2_with fail
      refine ret_l10Find (b := w.heap.size) rfl rfl ⟨?_, ?_, ?_, ?_⟩ ⟨⟨⟨#[]⟩, false, none, 0, 0, none, 0, 0, false, rfl, ⟨fun h => by simp at h, fun h => absurd h HA.out⟩⟩, HE.out⟩
      · rw [cell_of_row _ _ 0 _ _ (0, 0) HY.out]; rfl
      · rw [cell_of_row _ _ 1 _ _ (0, 0) HY.out]; rfl
      · rw [cell_of_row _ _ 2 _ _ (0, 0) HY.out]; rfl
      · rw [cell_of_row _ _ 3 _ _ (0, 0) HY.out]; rfl

end Go.Proofs.YtikoacgfnojoeaaGreatDoor

namespace Go.Proofs.YtikoacgfnojoeaaGreatDoor
open Go.RowKit

theorem frText_size (es : List ResV) : (frText es).size = (catL (frTexts es)).length := by unfold frText; show (List.toArray _).size = _; simp
theorem frText_more (es : List ResV) (k : Nat) (h : k < es.length) : frText (es.take (k + 1)) = frText (es.take k) ++ rtText es[k].rn es[k].ds := by
  have h1 : frTexts (es.take (k + 1)) = frTexts (es.take k) ++ [rtText es[k].rn es[k].ds] := by
    rw [List.take_succ_eq_append_getElem h]
    unfold frTexts
    rw [List.map_append]
    rfl
  unfold frText
  rw [h1, catL_append, catL_cons]
  apply ByteArray.ext
  rw [ByteArray.data_append]
  show _ = (catL (frTexts (es.take k))).toArray ++ (rtText es[k].rn es[k].ds).data
  have h2 : catL ([] : List ByteArray) = [] := rfl
  rw [h2, List.append_nil]
  apply Array.toList_inj.1
  simp

set_option maxHeartbeats 3200000 in
set_option maxRecDepth 100000 in
theorem specFarmReport (n : Nat) (e : FarmV) (w : World) (h : e.at w n) (hbk : farmB n e ≤ 1048576) (hln : ∀ r ∈ e.done, r.lines) :
    Calls Tryz.prog 5 #[.agg e.cells.toArray] w fun r w' => (∃ t b, r = .returned (.tuple #[.string t, .bool b]) ∧ FrOut e.set e.done t b) ∧ Below w.heap.size w w' := by
  obtain ⟨p1, p2, p3, p4, p5, p6, hrs, hbR, _⟩ := farm_parts hbk
  obtain ⟨vS, set, wait, vU, up, clock, epoch, vL, leases, vR, done, vN, net, room, vI, items⟩ := e
  simp only at p1 p2 p3 p4 p5 p6 hrs hln hbR
  obtain ⟨hS, hU, hL, hR, hN, hI⟩ := h
  simp only at hS hU hL hR hN hI
  obtain ⟨aS, cS, rfl, hSe⟩ := srcOpen hS
  obtain ⟨aU, cU, rfl, _⟩ := rowA_open hU
  obtain ⟨aL, cL, rfl, _⟩ := rowA_open hL
  obtain ⟨aR, cR, rfl, hRe⟩ := rowA_open hR.1
  obtain ⟨aN, cN, rfl, _⟩ := rowA_open hN
  obtain ⟨aI, cI, rfl, _⟩ := itOpen hI
  show Calls Tryz.prog 5 #[.agg #[.slice aS set.length cS, .int .i64 wait, .slice aU up.length cU, .int .i64 clock, .int .i64 epoch, .slice aL leases.length cL, .slice aR done.length cR, .slice aN net.length cN, .int .i64 room, .slice aI items.length cI]] w fun r w' => (∃ t b, r = .returned (.tuple #[.string t, .bool b]) ∧ FrOut set done t b) ∧ Below w.heap.size w w'
  obtain ⟨W1, hW1⟩ : ∃ W1, W1 = w.alloc (.cells #[.slice aS set.length cS, .int .i64 wait, .slice aU up.length cU, .int .i64 clock, .int .i64 epoch, .slice aL leases.length cL, .slice aR done.length cR, .slice aN net.length cN, .int .i64 room, .slice aI items.length cI] 43) := ⟨_, rfl⟩
  have hb1 : Below w.heap.size w W1 := by rw [hW1]; exact (Below.refl _ _).alloc (Nat.le_refl _) _
  have hz1' : W1.heap.size = w.heap.size + 1 := by rw [hW1]; simp
  have hrow : W1.heap[w.heap.size]? = some (.cells #[.slice aS set.length cS, .int .i64 wait, .slice aU up.length cU, .int .i64 clock, .int .i64 epoch, .slice aL leases.length cL, .slice aR done.length cR, .slice aN net.length cN, .int .i64 room, .slice aI items.length cI] 43 (0, 0)) := by rw [hW1]; exact (MapKept.heap_alloc w _).1
  have HB : Hid (∀ X, Below W1.heap.size W1 X → (X.cell? ⟨w.heap.size, 0, none⟩ = some (.slice aS set.length cS) ∧ X.cell? ⟨w.heap.size, 6, none⟩ = some (.slice aR done.length cR)) ∧ Below w.heap.size w X) := fun X hX => by
    have hr := (hX.block w.heap.size (by omega)).trans hrow
    refine ⟨⟨?_, ?_⟩, hb1.trans (hX.mono (by omega))⟩
    · rw [cell_of_row X _ 0 _ _ (0, 0) hr]; rfl
    · rw [cell_of_row X _ 6 _ _ (0, 0) hr]; rfl
  have HFI : Hid (∀ (X : World) (nm : ByteArray), Below W1.heap.size W1 X → _) := fun X nm hX => specFind n _ done nm X (hR.below (hb1.trans (hX.mono (by omega)))) p4 hrs
  have HSE : Hid (type_of% hSe) := hSe
  have HRE : Hid (type_of% hRe) := hRe
  have HAT : Hid (∀ X, Below W1.heap.size W1 X → ∀ r ∈ done, r.at X n) := fun X hX r hr => (hR.2 r hr).below (hb1.trans (hX.mono (by omega)))
  have HRS : Hid (∀ r ∈ done, r.rn.size ≤ 1048576 ∧ dgsBulk r.ds ≤ 1048576 ∧ r.ds.length ≤ 1048576 ∧ r.lines) := fun r hr => by
    obtain ⟨m1, m2, m3, m4, m5⟩ := resB_parts (hrs r hr)
    exact ⟨m4, m5, m1, hln r hr⟩
  have HFR : Hid (∀ k, (frText (done.take k)).size ≤ 29360128) := fun k => by
    rw [frText_size, ← frTexts_take]
    have h1 := catL_take_le (frTexts done) k
    have h2 := fr_size (n := n) done hln
    unfold bulkA at hbR
    omega
  have hX1 : Below W1.heap.size W1 W1 := Below.refl _ _
  clear hS hU hL hR hN hI hSe hRe hb1 hrow hln hrs hbR hbk
  go_enter Tryz.func5, Tryz.ntmps5
  go_wp2_with fail
  rw [← hW1]
  clear hW1
  go_loopw [5] (fun i wr => ∃ k : Nat, k ≤ set.length ∧ i = .int .i64 k ∧ (∀ j (hj : j < set.length), j < k → set[j].1 ∈ done.map (·.rn)) ∧ Below W1.heap.size W1 wr) (fun i _ => set.length - (intOf i).toNat)
  case atStart => exact ⟨0, Nat.zero_le _, rfl, fun j _ h => absurd h (by omega), hX1⟩
  case round =>
    obtain ⟨k, hk, rfl, hall, hbe⟩ := hrel
    have HALL : Hid (type_of% hall) := hall
    clear hall hX1
    obtain ⟨⟨c0, c6⟩, hbw⟩ := HB.out wr hbe
    by_cases hlt : k < set.length
    · obtain ⟨bs, os, rfl, hbs, q0, q1⟩ := HSE.out k hlt
      have hk0i : (0 : Int) ≤ (k : Int) := by omega
      have hk1i : (k : Int) < (set.length : Int) := by omega
      have d0 := (hbw.cell (p := ⟨bs, os + k * 2, none⟩) hbs).trans q0
      have HH : Hid (∀ X, Below wr.heap.size wr X → (X.cell? ⟨w.heap.size, 0, none⟩ = some (.slice (some ⟨bs, os, none⟩) set.length cS) ∧ X.cell? ⟨w.heap.size, 6, none⟩ = some (.slice aR done.length cR)) ∧ X.cell? ⟨bs, os + k * 2, none⟩ = some (.string set[k].1)) := fun X hX => by
        have hx1 := hbe.trans (hX.mono hbe.size)
        exact ⟨(HB.out X hx1).1, ((HB.out X hx1).2.cell (p := ⟨bs, os + k * 2, none⟩) hbs).trans q0⟩
      have HFI2 : Hid (∀ X, Below wr.heap.size wr X → _) := fun X hX => HFI.out X set[k].1 (hbe.trans (hX.mono hbe.size))
      have HN1 : Hid (∀ b : Bool, (b = true ↔ set[k].1 ∈ done.map (·.rn)) → (b = true → ∀ j (hj : j < set.length), j < k + 1 → set[j].1 ∈ done.map (·.rn)) ∧ (b = false → ¬ AllDone set done)) := fun b hb => by
        refine ⟨fun h j hj hjk => ?_, fun h ha => ?_⟩
        · by_cases e : j = k
          · subst e; exact hb.1 h
          · exact HALL.out j hj (by omega)
        · have := hb.2 (ha _ (List.getElem_mem hlt))
          rw [h] at this
          simp at this
      have HBE : Hid (∀ X, Below wr.heap.size wr X → Below W1.heap.size W1 X ∧ Below w.heap.size w X) := fun X hX => by
        have hx1 := hbe.trans (hX.mono hbe.size)
        exact ⟨hx1, (HB.out X hx1).2⟩
      clear q0 q1 hbe hbw HALL HFI HSE
      revert HFI2 HN1
      generalize set[k].1 = xa at *
      intro HFI2 HN1
      go_wp2_with fail
      go_region_held3 (fun w' => (w'.cell? ⟨w.heap.size, 0, none⟩ = some (.slice (some ⟨bs, os, none⟩) set.length cS) ∧ w'.cell? ⟨w.heap.size, 6, none⟩ = some (.slice aR done.length cR)) ∧ w'.cell? ⟨bs, os + k * 2, none⟩ = some (.string xa))
        (first
          | exact ⟨⟨c0, c6⟩, d0⟩
          | exact HH.out _ (Below.refl _ _).drew
          | exact HH.out _ ((Below.refl _ _).alloc (Nat.le_refl _) _).drew
          | exact HH.out _ (by assumption)
          | exact HH.out _ (Below.alloc (by assumption) (Below.size (by assumption)) _)
          | (revert hX3; intro hX3; exact HH.out _ ((((hX3.setCell (Nat.le_refl _) _).setCell (Nat.le_refl _) _).setCell (Nat.le_refl _) _).setCell (Nat.le_refl _) _))
          | (revert hX3; intro hX3; exact HH.out _ (((((hX3.alloc hX3.size _).setCell hX3.size _).setCell hX3.size _).setCell hX3.size _).setCell hX3.size _)))
        (first | (go_at_call 15; refine (HFI2.out _ (by first | exact (Below.refl _ _).drew | exact ((Below.refl _ _).alloc (Nat.le_refl _) _).drew)).mono ?_; rintro e w3 ⟨⟨x0, x1, a2, n2, c2, a3, n3, c3, ok, rfl, hok⟩, hb3⟩; have hX3 : Below wr.heap.size wr w3 := (by first | exact (Below.refl _ _).drew.trans hb3 | exact (((Below.refl wr.heap.size wr).alloc (Nat.le_refl _) _).drew).trans (hb3.mono (by simp))); first | (have hr3 : w3.heap[wr.heap.size]? = some (.cells #[.string ⟨#[]⟩, .bool false, .slice none 0 0, .slice none 0 0] 55 (0, 0)) := (hb3.block wr.heap.size (by simp)).trans (MapKept.heap_alloc wr _).1; have r0 := cell_of_row _ _ 0 _ _ (0, 0) hr3; have r1 := cell_of_row _ _ 1 _ _ (0, 0) hr3; have r2 := cell_of_row _ _ 2 _ _ (0, 0) hr3; have r3 := cell_of_row _ _ 3 _ _ (0, 0) hr3; have f0 := frozen_of_row _ _ 0 _ _ hr3; have f1 := frozen_of_row _ _ 1 _ _ hr3; have f2 := frozen_of_row _ _ 2 _ _ hr3; have f3 := frozen_of_row _ _ 3 _ _ hr3) | skip))
      all_goals
        have HN2 := HN1.out ok hok
        have HX3 : Hid (type_of% hX3) := hX3
        clear HN1 HH HFI2 hok hX3 c0 c6 d0
        cases ok
        · have HNO : Hid (¬ AllDone set done) := HN2.2 rfl
          clear HN2
          go_wp2_with fail
          go_ret2
          refine ⟨⟨_, _, rfl, .inr ⟨HNO.out, rfl, rfl⟩⟩, (HBE.out _ ?_).2⟩
          have hX3 := HX3.out
          first
            | exact ((((hX3.setCell (Nat.le_refl _) _).setCell (Nat.le_refl _) _).setCell (Nat.le_refl _) _).setCell (Nat.le_refl _) _)
            | exact hX3.alloc hX3.size _
            | (refine (((((hX3.alloc hX3.size _).setCell ?_ _).setCell ?_ _).setCell ?_ _).setCell ?_ _) <;> exact hX3.size)
        · have HYES : Hid (type_of% (HN2.1 rfl)) := HN2.1 rfl
          clear HN2
          go_wp2_with fail
          go_roundw
          case rel =>
            refine ⟨k + 1, by omega, by go_num, HYES.out, (HBE.out _ ?_).1⟩
            have hX3 := HX3.out
            first
              | exact ((((hX3.setCell (Nat.le_refl _) _).setCell (Nat.le_refl _) _).setCell (Nat.le_refl _) _).setCell (Nat.le_refl _) _)
              | exact hX3.alloc hX3.size _
              | (refine (((((hX3.alloc hX3.size _).setCell ?_ _).setCell ?_ _).setCell ?_ _).setCell ?_ _) <;> exact hX3.size)
          case measure => simp [intOf]; omega
    · have HA : Hid (AllDone set done) := fun s hs => by
        obtain ⟨j, hj, rfl⟩ := List.getElem_of_mem hs
        exact HALL.out j hj (by omega)
      clear HALL HFI HSE
      go_wp2_with fail
      go_loopw [4, 8] (fun v i wx => ∃ k : Nat, k ≤ done.length ∧ i = .int .i64 k ∧ v = .string (frText (done.take k)) ∧ Below W1.heap.size W1 wx) (fun _ i _ => done.length - (intOf i).toNat)
      case atStart => exact ⟨0, Nat.zero_le _, rfl, by rw [List.take_zero]; rfl, hbe⟩
      case round =>
        clear c0 c6 hbe hbw hk hlt
        obtain ⟨k, hk, rfl, rfl, hbx⟩ := hrel
        obtain ⟨⟨c0, c6⟩, hbw2⟩ := HB.out wr hbx
        by_cases hlt : k < done.length
        · obtain ⟨ba, oa, rfl, hba, p⟩ := HRE.out k hlt
          have A0 := (hbw2.cell (p := ⟨ba, oa + k * 6 + 0, none⟩) hba).trans (p 0 _ rfl)
          have A1 := (hbw2.cell (p := ⟨ba, oa + k * 6 + 1, none⟩) hba).trans (p 1 _ rfl)
          have A2 := (hbw2.cell (p := ⟨ba, oa + k * 6 + 2, none⟩) hba).trans (p 2 _ rfl)
          have A3 := (hbw2.cell (p := ⟨ba, oa + k * 6 + 3, none⟩) hba).trans (p 3 _ rfl)
          have A4 := (hbw2.cell (p := ⟨ba, oa + k * 6 + 4, none⟩) hba).trans (p 4 _ rfl)
          have A5 := (hbw2.cell (p := ⟨ba, oa + k * 6 + 5, none⟩) hba).trans (p 5 _ rfl)
          rw [Nat.add_zero] at A0
          obtain ⟨aD, cD, aT, cT, aX, cX, v1, v2, v3⟩ := resSl (HAT.out W1 (Below.refl _ _) done[k] (List.getElem_mem hlt))
          obtain ⟨m1, m2, m3, m4⟩ := HRS.out done[k] (List.getElem_mem hlt)
          have HRT : Hid (Calls Tryz.prog 16 #[.agg #[.string done[k].rn, .slice aD done[k].ds.length cD, .string done[k].nm, .bool done[k].bad, .slice aT done[k].ts.length cT, .slice aX done[k].xs.length cX]] wr fun e w' => e = .returned (.string (rtText done[k].rn done[k].ds)) ∧ Below wr.heap.size wr w') := specResultText done[k].rn _ _ _ _ _ done[k].ds wr (v1 ▸ (HAT.out wr hbx done[k] (List.getElem_mem hlt)).1) m1 m2 m4
          rw [v1] at A1
          rw [v2] at A4
          rw [v3] at A5
          have hT := frText_more done k hlt
          have hfr := HFR.out k
          have hfr1 := HFR.out (k + 1)
          rw [hT, ByteArray.size_append] at hfr1
          have HTK : Hid (type_of% hT) := hT
          have HBX : Hid (∀ X, Below wr.heap.size wr X → Below W1.heap.size W1 X) := fun X hX => hbx.trans (hX.mono hbx.size)
          have hk0i : (0 : Int) ≤ (k : Int) := by omega
          have hk1i : (k : Int) < (done.length : Int) := by omega
          clear hT v1 v2 v3 m1 m2 m3 m4 p HRE HAT HRS HFR hbx hbw2
          generalize frText (done.take k) = S at *
          generalize rtText done[k].rn done[k].ds = T at *
          generalize done[k].ds.length = dl at *
          generalize done[k].ts.length = tl at *
          generalize done[k].xs.length = xl at *
          generalize done[k].rn = xa at *
          generalize done[k].nm = xc at *
          generalize done[k].bad = xd at *
          go_wp2_with (go_at_call 16; refine HRT.out.mono ?_; rintro e w4 ⟨rfl, hb4⟩)
          go_roundw
          case rel => exact ⟨k + 1, by omega, by go_num, by rw [HTK.out], HBX.out _ hb4⟩
          case measure => simp [intOf]; omega
        · obtain rfl : k = done.length := by omega
          rw [List.take_of_length_le (Nat.le_refl _)]
          clear HRE HAT HRS HFR
          go_wp2_with fail
          go_ret2
          exact ⟨⟨_, _, rfl, .inl ⟨HA.out, rfl, rfl⟩⟩, hbw2⟩

end Go.Proofs.YtikoacgfnojoeaaGreatDoor

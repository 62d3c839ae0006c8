/-
  The walk of impl.startYard.
-/
import Derived.Test.YtllbfbllkefjeaaGreatDoorItO
import Derived.Deep.RegionWith
namespace Go.Proofs.YtllbfbllkefjeaaGreatDoor
open Go.RowKit

/-- a farm begins with these -/
def FarmRight (S : List Src) (wk wt rm : Int) (I : List Itm) : Prop := SrcRight S ∧ (1 ≤ wk ∧ wk ≤ 30) ∧ (1 ≤ wt ∧ wt ≤ 50) ∧ StoreRight rm I

theorem made_bools (w : World) (n : Int) (h0 : 0 ≤ n) (h1 : n ≤ 100) : (Instr.makeSlice 29 (.int .i64 n) (.int .i64 n)).run Tryz.prog w = .ok (.slice (some ⟨w.heap.size, 0, none⟩) n.toNat n.toNat) (w.alloc (.cells (madeCells #[.bool false] n.toNat) 4)) := by
  obtain ⟨i0, hi, hz0, hz1, hz2⟩ := info_parts Tryz.infoBo
  have := run_make (P := Tryz.prog) w 29 4 i0 _ Tryz.underlying29 hi hz0 .i64 .i64 n n h0 (Int.le_refl _) (by rw [hz2]; omega) (by omega)
  rw [hz1, Nat.mul_one] at this
  exact this
theorem made_rowA (w : World) (n : Nat) : RowA 1 BoF (w.alloc (.cells (madeCells #[.bool false] n) 4)) (.slice (some ⟨w.heap.size, 0, none⟩) (List.replicate n false).length n) (List.replicate n false) := by
  refine .inr ⟨w.heap.size, 0, n, rfl, by simp, fun j hj c u hu => ?_⟩
  rw [List.length_replicate] at hj
  match c, hu with
  | 0, hu =>
    rw [newA _ rfl, Nat.zero_add, Nat.mul_one, Nat.add_zero]
    rw [List.getElem_replicate] at hu
    rw [← hu]
    simp [madeCells, hj, BoF, Nat.mod_one]
  | c + 1, hu => simp [BoF] at hu

theorem Stk.grownBy {B : Nat} {w w' : World} {sb M : Nat} {lk room : Int} {v : Value} {es : List Itm} {o : Option Nat} (h : Stk B w sb M lk room v es) (hg : w.grownBy w' o) (ht : ∀ g, o = some g → ∃ cur, w.heap[g]? = some (.cells cur 4 (0, 0))) : Stk B w' sb M lk room v es := by
  have hk : ∀ k ob, w.heap[k]? = some ob → (∀ cur, ob ≠ Obj.cells cur 4 (0, 0)) → w'.heap[k]? = w.heap[k]? := fun k ob hh hn => by
    refine hg.block k (Array.getElem?_eq_some_iff.1 hh).1 fun e => ?_
    obtain ⟨cur, hc⟩ := ht k e.symm
    rw [hh] at hc
    exact hn cur (Option.some.inj hc)
  refine ⟨(hk sb _ h.box fun cur e => by simp at e).trans h.box, h.row.kept hg ?_, ?_, h.bs, h.bm⟩
  · rcases h.row.2 with ⟨e, _⟩ | ⟨g, c, cur, e, _, hh, _⟩
    · exact .inl (by rw [e]; rfl)
    · refine .inr fun q => ?_
      rw [e] at q
      obtain ⟨cur2, hc⟩ := ht g q.symm
      rw [hh] at hc
      simp at hc
  · obtain ⟨es2, ck, hm⟩ := h.map.map
    exact h.map.same (hk M _ hm fun cur e => by simp at e)

set_option maxHeartbeats 3200000 in
set_option maxRecDepth 100000 in
open Classical in
theorem implStartYard (a1 : Option Addr) (c1 : Nat) (S : List Src) (wk wt rm : Int) (a3 : Option Addr) (c3 : Nat) (I : List Itm) (p : Addr) (w : World) (hS : SrcAt w (.slice a1 S.length c1) S) (hSb : srsBulk S ≤ 1048576) (hI : ItAt w (.slice a3 I.length c3) I) (hIb : itsBulk I ≤ 4194304) (hc : ClsIs w) (htab : w.cell? ⟨5, 15, none⟩ = some (.int .u8 4)) (hg : w.cell? ⟨0, 0, none⟩ = some (.iface 271 (.pointer (some p)))) :
    Calls Tryz.prog 25 #[.slice a1 S.length c1, .int .i64 wk, .int .i64 wt, .agg #[.int .i64 rm, .slice a3 I.length c3]] w fun e w' => ((¬ FarmRight S wk wt rm I ∧ e = .returned (.tuple #[.pointer none, .iface 271 (.pointer (some p))])) ∨ (FarmRight S wk wt rm I ∧ ∃ (yb : Nat) (a : Option Addr) (c sb M : Nat) (v dn un : Value), e = .returned (.tuple #[.pointer (some ⟨yb, 0, none⟩), .nilIface]) ∧ w'.heap[yb]? = some (.cells (yardCells a1 S.length c1 wt a wk.toNat c rm a3 I.length c3 (.pointer (some ⟨sb, 0, none⟩)) (.pointer none) dn un) 97 (0, 0)) ∧ w.heap.size ≤ yb ∧ w'.ownsRow w.heap.size 4 1 (.slice a wk.toNat c) wk.toNat (flatA BoF (trues wk.toNat)) ∧ Stk w.heap.size w' sb M 0 rm v I)) ∧ Below w.heap.size w w' := by
  obtain ⟨W1, hW1⟩ : ∃ W1, W1 = w.alloc (.cells #[.int .i64 rm, .slice a3 I.length c3] 35) := ⟨_, rfl⟩
  have hb1 : Below w.heap.size w W1 := by rw [hW1]; exact (Below.refl _ _).alloc (Nat.le_refl _) _
  have hz1 : W1.heap.size = w.heap.size + 1 := by rw [hW1]; simp
  have hrow : W1.heap[w.heap.size]? = some (.cells #[.int .i64 rm, .slice a3 I.length c3] 35 (0, 0)) := by rw [hW1]; exact (MapKept.heap_alloc w _).1
  have HB : Hid (∀ X, Below W1.heap.size W1 X → (X.cell? ⟨w.heap.size, 0, none⟩ = some (.int .i64 rm) ∧ X.cell? ⟨w.heap.size, 1, none⟩ = some (.slice a3 I.length c3)) ∧ Below w.heap.size w X) := fun X hX => by
    have hr := (hX.block w.heap.size (by omega)).trans hrow
    exact ⟨⟨by rw [cell_of_row X _ 0 _ _ (0, 0) hr]; rfl, by rw [cell_of_row X _ 1 _ _ (0, 0) hr]; rfl⟩, hb1.trans (hX.mono (by omega))⟩
  obtain ⟨bS, hbS⟩ : ∃ b : Bool, b = decide (SrcRight S) := ⟨_, rfl⟩
  obtain ⟨bI, hbI⟩ : ∃ b : Bool, b = decide (StoreRight rm I) := ⟨_, rfl⟩
  have HSO : Hid (∀ X, Below W1.heap.size W1 X → Calls Tryz.prog 50 #[.slice a1 S.length c1] X fun e w' => e = .returned (.bool bS) ∧ Below X.heap.size X w') := fun X hX => by
    have hx := hb1.trans (hX.mono (by omega))
    rw [hbS]
    exact (implSetOk _ S X (hS.below hx) hSb (hc.below hx hc.lt)).mono fun e w' h => ⟨h.1.trans (by congr), h.2⟩
  have HIO : Hid (∀ X, Below W1.heap.size W1 X → Calls Tryz.prog 52 #[.agg #[.int .i64 rm, .slice a3 I.length c3]] X fun e w' => e = .returned (.bool bI) ∧ Below X.heap.size X w') := fun X hX => by
    have hx := hb1.trans (hX.mono (by omega))
    rw [hbI]
    exact (implStoreOk rm _ I X (hI.below hx) hIb ((hx.cell (p := ⟨5, 15, none⟩) (World.block_lt_of_cell? w ⟨5, 15, none⟩ htab)).trans htab)).mono fun e w' h => ⟨h.1.trans (by congr), h.2⟩
  have HGL : Hid (∀ X, Below W1.heap.size W1 X → X.cell? ⟨0, 0, none⟩ = some (.iface 271 (.pointer (some p)))) := fun X hX => ((hb1.trans (hX.mono (by omega))).cell (p := ⟨0, 0, none⟩) (World.block_lt_of_cell? w ⟨0, 0, none⟩ hg)).trans hg
  have HTB : Hid (∀ X, Below W1.heap.size W1 X → X.cell? ⟨5, 15, none⟩ = some (.int .u8 4) ∧ ItAt X (.slice a3 I.length c3) I) := fun X hX => by
    have hx := hb1.trans (hX.mono (by omega))
    exact ⟨(hx.cell (p := ⟨5, 15, none⟩) (World.block_lt_of_cell? w ⟨5, 15, none⟩ htab)).trans htab, hI.below hx⟩
  have HBS : Hid (bS = true ↔ SrcRight S) := by rw [hbS]; exact decide_eq_true_iff
  have HBI : Hid (bI = true ↔ StoreRight rm I) := by rw [hbI]; exact decide_eq_true_iff
  have hX1 : Below W1.heap.size W1 W1 := Below.refl _ _
  have HZ1 : Hid (W1.heap.size = w.heap.size + 1) := hz1
  have HW1 : Hid (W1 = w.alloc (.cells #[.int .i64 rm, .slice a3 I.length c3] 35)) := hW1
  clear hS hSb hI hc htab hg hrow hb1 hz1 hbS hbI hW1
  cases bS
  · go_enter Tryz.func25, Tryz.ntmps25
    go_wp2_with fail
    rw [← HW1.out]
    clear HW1
    refine (HSO.out _ hX1).mono ?_
    rintro e w2 ⟨rfl, hb2⟩
    obtain ⟨⟨y0, y1⟩, hbw⟩ := HB.out _ hb2
    have hgl := HGL.out _ hb2
    have HNR : Hid (¬ FarmRight S wk wt rm I) := fun h => by have := HBS.out.2 h.1; simp at this
    clear HB HGL HIO HTB HSO
    go_wp2_with fail
    go_quiet (fail)
    go_wp2_with fail
    go_ret2
    exact ⟨.inl ⟨HNR.out, rfl⟩, hbw.trans (below_drewN (Below.refl _ _) _)⟩
  · by_cases hwk : 1 ≤ wk ∧ wk ≤ 30
    · obtain ⟨hk1, hk2⟩ := hwk
      have hk3 : ¬ wk < 1 := by omega
      have hk4 : ¬ 30 < wk := by omega
      by_cases hwt : 1 ≤ wt ∧ wt ≤ 50
      · cases bI
        · have HIW : Hid (∀ X, Calls Tryz.prog 51 #[.int .i64 wt] X fun e w' => e = .returned (.bool true) ∧ w' = X) := fun X => (implIsWait wt X).mono fun e w' h => ⟨h.1.trans (by congr 2; simp; omega), h.2⟩
          go_enter Tryz.func25, Tryz.ntmps25
          go_wp2_with fail
          rw [← HW1.out]
          clear HW1
          refine (HSO.out _ hX1).mono ?_
          rintro e w2 ⟨rfl, hb2⟩
          obtain ⟨⟨y0, y1⟩, hbw⟩ := HB.out _ hb2
          have hgl := HGL.out _ hb2
          have HNR : Hid (¬ FarmRight S wk wt rm I) := fun h => by have := HBI.out.2 h.2.2.2; simp at this
          clear HTB HSO
          go_wp2_with (first
            | (go_at_call 51; refine (HIW.out _).mono ?_; rintro e w3 ⟨rfl, hw3⟩; rw [hw3]; clear hw3)
            | (go_at_call 52; refine (HIO.out _ hb2).mono ?_; rintro e w4 ⟨rfl, hb4⟩; have hX4 : Below W1.heap.size W1 w4 := hb2.trans (hb4.mono hb2.size); have hgl := HGL.out _ hX4; obtain ⟨⟨e0, e1⟩, hbw4⟩ := HB.out _ hX4))
          go_quiet (fail)
          go_wp2_with fail
          go_ret2
          exact ⟨.inl ⟨HNR.out, rfl⟩, hbw4.trans (below_drewN (Below.refl _ _) _)⟩
        · have HIW : Hid (∀ X, Calls Tryz.prog 51 #[.int .i64 wt] X fun e w' => e = .returned (.bool true) ∧ w' = X) := fun X => (implIsWait wt X).mono fun e w' h => ⟨h.1.trans (by congr 2; simp; omega), h.2⟩
          have HYES : Hid (FarmRight S wk wt rm I) := ⟨HBS.out.1 rfl, ⟨hk1, hk2⟩, hwt, HBI.out.1 rfl⟩
          have hmk := made_bools
          go_enter Tryz.func25, Tryz.ntmps25
          go_wp2_with fail
          rw [← HW1.out]
          clear HW1
          refine (HSO.out _ hX1).mono ?_
          rintro e w2 ⟨rfl, hb2⟩
          obtain ⟨⟨y0, y1⟩, hbw⟩ := HB.out _ hb2
          clear HSO
          go_wp2_with (first
            | (go_at_call 51; refine (HIW.out _).mono ?_; rintro e w3 ⟨rfl, hw3⟩; rw [hw3]; clear hw3)
            | (go_at_call 52; refine (HIO.out _ hb2).mono ?_; rintro e w4 ⟨rfl, hb4⟩; have hX4 : Below W1.heap.size W1 w4 := hb2.trans (hb4.mono hb2.size); have hgl := HGL.out _ hX4; obtain ⟨⟨e0, e1⟩, hbw4⟩ := HB.out _ hX4))
          have hIw := HTB.out
          have HMK : Hid (∀ X : World, (Instr.makeSlice 29 (.int .i64 wk) (.int .i64 wk)).run Tryz.prog X = .ok (.slice (some ⟨X.heap.size, 0, none⟩) wk.toNat wk.toNat) (X.alloc (.cells (madeCells #[.bool false] wk.toNat) 4))) := fun X => made_bools X wk (by omega) (by omega)
          have HNY : Hid (∀ X, Below (w4.heap.size + 1) (w4.alloc (.cells (madeCells #[.bool false] wk.toNat) 4)) X → Calls Tryz.prog 53 #[.agg #[.slice a1 S.length c1, .int .i64 wt, .slice (some ⟨w4.heap.size, 0, none⟩) wk.toNat wk.toNat, .int .i64 0, .int .i64 0, .slice none 0 0, .slice none 0 0, .slice none 0 0, .int .i64 rm, .slice a3 I.length c3]] X fun e w' => ∃ (yb : Nat) (a : Option Addr) (c sb M : Nat) (v dn un : Value), e = .returned (.pointer (some ⟨yb, 0, none⟩)) ∧ w'.heap[yb]? = some (.cells (yardCells a1 S.length c1 wt a wk.toNat c rm a3 I.length c3 (.pointer (some ⟨sb, 0, none⟩)) (.pointer none) dn un) 97 (0, 0)) ∧ X.heap.size ≤ yb ∧ w'.ownsRow X.heap.size 4 1 (.slice a wk.toNat c) wk.toNat (flatA BoF (List.replicate wk.toNat false)) ∧ Stk X.heap.size w' sb M 0 rm v I ∧ Below X.heap.size X w') := fun X hX => by
            have hA : Below w4.heap.size w4 (w4.alloc (.cells (madeCells #[.bool false] wk.toNat) 4)) := (Below.refl _ _).alloc (Nat.le_refl _) _
            have hX2 : Below W1.heap.size W1 X := hX4.trans ((hA.trans (hX.mono (by omega))).mono hX4.size)
            obtain ⟨h1, h2⟩ := HTB.out X hX2
            have hm := (made_rowA w4 wk.toNat).below (hX.mono (by simp))
            have := implNewYard a1 S.length c1 wt (some ⟨w4.heap.size, 0, none⟩) wk.toNat (List.replicate wk.toNat false) rm a3 c3 I X hm (by simp; omega) h2 hIb HYES.out.2.2.2 h1
            simp only [List.length_replicate] at this
            exact this
          have hmkr := HMK.out
          clear y0 y1 hbw hgl hIw
          go_region_held3 (fun w' => w'.cell? ⟨w.heap.size, 0, none⟩ = some (.int .i64 rm) ∧ w'.cell? ⟨w.heap.size, 1, none⟩ = some (.slice a3 I.length c3))
            (first
              | exact ⟨e0, e1⟩
              | exact (HB.out _ hX4.drew).1
              | exact (HB.out _ (hX4.alloc hX4.size _).drew).1
              | exact (HB.out _ (hX4.alloc hX4.size _)).1
              | (revert hX5; intro hX5; exact (HB.out _ hX5).1))
            (first | (go_at_call 53; refine (HNY.out _ (by first | exact Below.refl _ _ | exact (Below.refl _ _).drew)).mono ?_; rintro e w5 ⟨yb, a, c, sb, M, v, dn, un, rfl, hy5, hyb5, ho5, hst5, hb5⟩; have hX5 : Below W1.heap.size W1 w5 := (by first | exact ((hX4.alloc hX4.size _).drew).trans (hb5.mono (by simp; exact Nat.le_trans hX4.size (by omega))) | exact (hX4.alloc hX4.size _).trans (hb5.mono (by simp; exact Nat.le_trans hX4.size (by omega))))))
          all_goals
            have hly : ∃ cur, ∀ g, (Value.slice a wk.toNat c).ownBlock = some g → w5.heap[g]? = some (.cells cur 4 (0, 0)) := by
              rcases ho5.2 with ⟨e, _⟩ | ⟨g, cap, cur, e, _, hh, _⟩
              · exact ⟨#[], fun g hg => by rw [e] at hg; cases hg⟩
              · refine ⟨cur, fun g' hg => ?_⟩
                rw [e] at hg
                simp only [Value.ownBlock, Option.some.injEq] at hg
                subst hg
                exact hh
            obtain ⟨cur, hly⟩ := hly
            have hneq : ∀ g, (Value.slice a wk.toNat c).ownBlock = some g → g ≠ yb := fun g hg e => by
              have h1 := hly g hg
              rw [e, hy5] at h1
              simp at h1
            have hRA := implRaiseAll _ yb a1 S.length c1 wt a c (List.replicate wk.toNat false) rm a3 I.length c3 _ _ dn un w5 (by rw [List.length_replicate]; exact hy5) (by simp only [List.length_replicate]; exact ho5) (by simp; omega) (by simp only [List.length_replicate]; exact hneq)
            simp only [List.length_replicate] at hRA
            have hsz5 : w.heap.size ≤ w4.heap.size := hbw4.size
            have HFIN : Hid (∀ w6, w6.ownsRow (w4.heap.size + 1) 4 1 (.slice a wk.toNat c) wk.toNat (flatA BoF (trues wk.toNat)) → w5.grownBy w6 (Value.slice a wk.toNat c).ownBlock → w6.heap[yb]? = some (.cells (yardCells a1 S.length c1 wt a wk.toNat c rm a3 I.length c3 (.pointer (some ⟨sb, 0, none⟩)) (.pointer none) dn un) 97 (0, 0)) ∧ w.heap.size ≤ yb ∧ w6.ownsRow w.heap.size 4 1 (.slice a wk.toNat c) wk.toNat (flatA BoF (trues wk.toNat)) ∧ Stk w.heap.size w6 sb M 0 rm v I ∧ Below w.heap.size w w6) := fun w6 h1 h2 => by
              refine ⟨?_, by simp at hyb5; omega, itLow h1 (by omega) fun _ _ => rfl, (hst5.grownBy h2 fun g hg => ⟨cur, hly g hg⟩).low (by simp; omega), ?_⟩
              · rw [h2.block yb (Array.getElem?_eq_some_iff.1 hy5).1 fun e => hneq yb e.symm rfl]
                exact hy5
              · exact ((HB.out _ hX5).2).grown h2 (Nat.le_trans hsz5 (by have := hb5.size; simp at this; omega)) (fun j hj => by have := (h1.lt j hj).1; omega)
            have HRA : Hid (type_of% hRA) := hRA
            clear hRA ho5 hst5 hy5 hyb5 hb5 hly hneq hX5 e0 e1 hmkr HNY HMK
            go_wp2_with fail
            refine HRA.out.mono ?_
            rintro e w6 ⟨rfl, h1, h2⟩
            obtain ⟨k1, k2, k3, k4, k5⟩ := HFIN.out w6 (by simpa using h1) h2
            have HK : Hid (type_of% k1 ∧ type_of% k2 ∧ type_of% k3 ∧ type_of% k4 ∧ type_of% k5) := ⟨k1, k2, k3, k4, k5⟩
            clear HRA HFIN h1 h2 k1 k2 k3 k4 k5
            go_wp2_with fail
            go_ret2
            exact ⟨.inr ⟨HYES.out, yb, a, c, sb, M, v, dn, un, rfl, HK.out.1, HK.out.2.1, HK.out.2.2.1, HK.out.2.2.2.1⟩, HK.out.2.2.2.2⟩
      · have HIW : Hid (∀ X, Calls Tryz.prog 51 #[.int .i64 wt] X fun e w' => e = .returned (.bool false) ∧ w' = X) := fun X => (implIsWait wt X).mono fun e w' h => ⟨h.1.trans (by congr 2; simp; omega), h.2⟩
        go_enter Tryz.func25, Tryz.ntmps25
        go_wp2_with fail
        rw [← HW1.out]
        clear HW1
        refine (HSO.out _ hX1).mono ?_
        rintro e w2 ⟨rfl, hb2⟩
        obtain ⟨⟨y0, y1⟩, hbw⟩ := HB.out _ hb2
        have hgl := HGL.out _ hb2
        have HNR : Hid (¬ FarmRight S wk wt rm I) := fun h => hwt h.2.2.1
        clear HTB HSO
        clear HIO
        go_wp2_with (go_at_call 51; refine (HIW.out _).mono ?_; rintro e w3 ⟨rfl, hw3⟩; rw [hw3]; clear hw3)
        go_quiet (fail)
        go_wp2_with fail
        go_ret2
        exact ⟨.inl ⟨HNR.out, rfl⟩, hbw.trans (below_drewN (Below.refl _ _) _)⟩
    · have HWK : Hid (¬ (1 ≤ wk ∧ wk ≤ 30)) := hwk
      have hor : wk < 1 ∨ (¬ wk < 1 ∧ 30 < wk) := by omega
      clear hwk
      rcases hor with hk | ⟨hk, hk'⟩
      · go_enter Tryz.func25, Tryz.ntmps25
        go_wp2_with fail
        rw [← HW1.out]
        clear HW1
        refine (HSO.out _ hX1).mono ?_
        rintro e w2 ⟨rfl, hb2⟩
        obtain ⟨⟨y0, y1⟩, hbw⟩ := HB.out _ hb2
        have hgl := HGL.out _ hb2
        have HNR : Hid (¬ FarmRight S wk wt rm I) := fun h => HWK.out h.2.1
        clear HTB HSO
        clear HIO
        go_wp2_with fail
        go_quiet (fail)
        go_wp2_with fail
        go_ret2
        exact ⟨.inl ⟨HNR.out, rfl⟩, hbw.trans (below_drewN (Below.refl _ _) _)⟩
      · go_enter Tryz.func25, Tryz.ntmps25
        go_wp2_with fail
        rw [← HW1.out]
        clear HW1
        refine (HSO.out _ hX1).mono ?_
        rintro e w2 ⟨rfl, hb2⟩
        obtain ⟨⟨y0, y1⟩, hbw⟩ := HB.out _ hb2
        have hgl := HGL.out _ hb2
        have HNR : Hid (¬ FarmRight S wk wt rm I) := fun h => HWK.out h.2.1
        clear HTB HSO
        clear HIO
        go_wp2_with fail
        go_quiet (fail)
        go_wp2_with fail
        go_ret2
        exact ⟨.inl ⟨HNR.out, rfl⟩, hbw.trans (below_drewN (Below.refl _ _) _)⟩

end Go.Proofs.YtllbfbllkefjeaaGreatDoor

/-
  The walks of the law's own helpers markItemS and markStore (they write marks into a list that is their caller's own) and heldItemS and heldStore (they find them there).
  The walks of the law's own helpers markStore, heldStore (from any mark on), markFarm and heldFarm, over a farm that holds no leases, results and packets.
-/
import Derived.Test.YtllbfbllkefjeaaGreatDoorMarkB
import Derived.Test.YtllbfbllkefjeaaGreatDoorItT
namespace Go.Proofs.YtllbfbllkefjeaaGreatDoor
open Go.RowKit
open Go.Sort (grow)

/-- an item of three marks -/
def mkI (K : Nat) : Itm := (markB K, markB (K + 1), markB (K + 2))
def marksI (k0 n : Nat) : List Itm := (List.range n).map fun j => mkI (k0 + j * 3)
theorem marksI_length (k0 n : Nat) : (marksI k0 n).length = n := by simp [marksI]
theorem marksI_more (k0 n : Nat) : marksI k0 (n + 1) = marksI k0 n ++ [mkI (k0 + n * 3)] := by simp [marksI, List.range_succ]
theorem marksI_get (k0 n j : Nat) (h : j < n) : (marksI k0 n)[j]'(by rw [marksI_length]; exact h) = mkI (k0 + j * 3) := by simp [marksI]
def halfI (es : List Itm) (k0 j : Nat) : List Itm := marksI k0 j ++ es.drop j
theorem halfI_zero (es : List Itm) (k0 : Nat) : halfI es k0 0 = es := by simp [halfI, marksI]
theorem halfI_length (es : List Itm) (k0 j : Nat) (h : j ≤ es.length) : (halfI es k0 j).length = es.length := by simp [halfI, marksI_length]; omega
theorem halfI_all (es : List Itm) (k0 : Nat) : halfI es k0 es.length = marksI k0 es.length := by simp [halfI]
theorem halfI_set (es : List Itm) (k0 j : Nat) (h : j < es.length) : (halfI es k0 j).set j (mkI (k0 + j * 3)) = halfI es k0 (j + 1) := by
  unfold halfI
  rw [List.set_append_right _ _ (by rw [marksI_length]; omega), marksI_length, Nat.sub_self, marksI_more, List.append_assoc, List.drop_eq_getElem_cons h]
  rfl

theorem grown_stepI {w w1 w2 : World} {o : Option Nat} (h : w.grownBy w1 o) (hb : Below w1.heap.size w1 w2) : w.grownBy w2 o :=
  ⟨hb.os.trans h.os, hb.tape.trans h.tape, hb.output.trans h.output, Nat.le_trans h.size hb.size, fun k hk hne => (hb.block k (Nat.lt_of_lt_of_le hk h.size)).trans (h.block k hk hne)⟩
theorem grown_setI {w w1 : World} {g i : Nat} {u : Value} (h : w.grownBy w1 (some g)) : w.grownBy (w1.setCell ⟨g, i, none⟩ u) (some g) := by
  refine ⟨?_, ?_, ?_, by simpa using h.size, fun k hk hne => ?_⟩
  · rw [← h.os]; unfold World.setCell; split <;> rfl
  · rw [← h.tape]; unfold World.setCell; split <;> rfl
  · rw [← h.output]; unfold World.setCell; split <;> rfl
  · rw [Below.heap_setCell _ _ _ _ (fun e => hne (by rw [e]))]
    exact h.block k hk hne
theorem grown_reflI (w : World) (o : Option Nat) : w.grownBy w o := ⟨rfl, rfl, rfl, Nat.le_refl _, fun _ _ _ => rfl⟩
theorem grown_transI {w w1 w2 : World} {o : Option Nat} (h : w.grownBy w1 o) (h2 : w1.grownBy w2 o) : w.grownBy w2 o :=
  ⟨h2.os.trans h.os, h2.tape.trans h.tape, h2.output.trans h.output, Nat.le_trans h.size h2.size, fun k hk hne => (h2.block k (Nat.lt_of_lt_of_le hk h.size) hne).trans (h.block k hk hne)⟩
theorem itAt_grown {w w' : World} {o : Option Nat} {v : Value} {es : List Itm} (h : ItAt w v es) (hg : w.grownBy w' o) (hne : v.ownBlock ≠ o ∨ v.ownBlock = none) : ItAt w' v es := by
  rcases h with h | ⟨b, off, cap, rfl, hc⟩
  · exact .inl h
  · have hn : some b ≠ o := by
      rcases hne with h | h
      · exact h
      · cases h
    refine .inr ⟨b, off, cap, rfl, fun j hj => ?_⟩
    obtain ⟨h1, h2, h3⟩ := hc j hj
    exact ⟨hg.cell h1 hn, hg.cell h2 hn, hg.cell h3 hn⟩

set_option maxHeartbeats 1600000 in
set_option maxRecDepth 100000 in
theorem lawsMarkIts (v : Value) (es : List Itm) (B k0 : Nat) (w : World) (hown : w.ownsRow B 83 3 v es.length (itV es)) (hn : es.length ≤ 4194304) (hk : 1 ≤ k0) (hk2 : k0 ≤ 1000000000) :
    Calls Tryz.prog 35 #[v, .int .i64 k0] w fun e w' => e = .returned (.int .i64 ((k0 + es.length * 3 : Nat) : Int)) ∧ w'.ownsRow B 83 3 v es.length (itV (marksI k0 es.length)) ∧ w.grownBy w' v.ownBlock := by
  by_cases hn0 : es.length = 0
  · obtain rfl : es = [] := List.length_eq_zero_iff.1 hn0
    obtain ⟨a, cap, rfl⟩ : ∃ a cap, v = .slice a 0 cap := by
      rcases hown.2 with ⟨e, _⟩ | ⟨g, cap, cur, e, _⟩
      · exact ⟨none, 0, e⟩
      · exact ⟨_, cap, e⟩
    have HO : Hid (type_of% hown) := hown
    clear hown hn hn0
    go_enter Tryz.func35, Tryz.ntmps35
    go_wp2
    refine wp_loop_rounds 1 ?_
    rw [rounds_succ]
    go_wp2
    go_ret
    exact ⟨rfl, HO.out, grown_reflI _ _⟩
  · obtain ⟨g, cap, rfl⟩ : ∃ g cap, v = .slice (some ⟨g, 0, none⟩) es.length cap := by
      rcases hown.2 with ⟨_, h⟩ | ⟨g, cap, cur, hv, hg, _⟩
      · exact absurd h hn0
      · exact ⟨g, cap, hv⟩
    have HO : Hid (type_of% hown) := hown
    clear hown
    go_enter Tryz.func35, Tryz.ntmps35
    go_wp2
    go_loopw [1, 5] (fun k i wr => ∃ j : Nat, j ≤ es.length ∧ i = .int .i64 j ∧ k = .int .i64 ((k0 + j * 3 : Nat) : Int) ∧ wr.ownsRow B 83 3 (.slice (some ⟨g, 0, none⟩) es.length cap) es.length (itV (halfI es k0 j)) ∧ w.grownBy wr (some g)) (fun _ i _ => es.length - (intOf i).toNat)
    case atStart => exact ⟨0, Nat.zero_le _, rfl, by simp, by rw [halfI_zero]; exact HO.out, grown_reflI _ _⟩
    case round =>
      obtain ⟨j, hj, rfl, rfl, ho, hgr⟩ := hrel
      clear HO
      by_cases hlt : j < es.length
      · obtain ⟨K, hK⟩ : ∃ K : Nat, K = k0 + j * 3 := ⟨_, rfl⟩
        have HS : Hid ((((itV (halfI es k0 j)).set (j * 3) (.string (markB K))).set (j * 3 + 1) (.string (markB (K + 1)))).set (j * 3 + 2) (.string (markB (K + 2))) = itV (halfI es k0 (j + 1))) := by
          show _ = _
          have := itV_set (halfI es k0 j) j (by rw [halfI_length es k0 j hj]; exact hlt) (mkI K)
          rw [hK, halfI_set es k0 j hlt] at this
          rw [hK]
          exact this
        have HM0 : Hid (∀ wx : World, Calls Tryz.prog 34 #[.int .i64 (K : Int)] wx fun e w' => e = .returned (.string (markB K)) ∧ Below wx.heap.size wx w') := fun wx => lawsMark K wx (by omega) (by omega)
        have HM1 : Hid (∀ wx : World, Calls Tryz.prog 34 #[.int .i64 ((K : Int) + 1)] wx fun e w' => e = .returned (.string (markB (K + 1))) ∧ Below wx.heap.size wx w') := fun wx => lawsMark (K + 1) wx (by omega) (by omega)
        have HM2 : Hid (∀ wx : World, Calls Tryz.prog 34 #[.int .i64 ((K : Int) + 1 + 1)] wx fun e w' => e = .returned (.string (markB (K + 2))) ∧ Below wx.heap.size wx w') := fun wx => by
          have := lawsMark (K + 2) wx (by omega) (by omega)
          rw [show ((K + 2 : Nat) : Int) = (K : Int) + 1 + 1 from by omega] at this
          exact this
        have hl3 : (itV (halfI es k0 j)).length = es.length * 3 := ho.1
        obtain ⟨Y2, hY2⟩ : ∃ Y2, Y2 = itV (halfI es k0 (j + 1)) := ⟨_, rfl⟩
        have HY2 : Hid (type_of% hY2) := hY2
        rw [← hY2] at HS
        clear hY2
        generalize itV (halfI es k0 j) = Y at *
        generalize markB K = V0 at *
        generalize markB (K + 1) = V1 at *
        generalize markB (K + 2) = V2 at *
        rw [show ((k0 + j * 3 : Nat) : Int) = (K : Int) from by rw [hK]]
        have hKb : (K : Int) ≤ 2000000000 := by omega
        have HK : Hid (K = k0 + j * 3) := hK
        clear hK
        have hj0 : (0 : Int) ≤ j := by omega
        have hj1 : (j : Int) < es.length := by omega
        have hcell : ∀ (X : World) (L : List Value) (c : Nat), L.length = es.length * 3 → c < 3 → X.ownsRow B 83 3 (.slice (some ⟨g, 0, none⟩) es.length cap) es.length L → ∃ u, X.cell? ⟨g, j * 3 + c, none⟩ = some u := fun X L c hL hc h => by
          rw [h.cellAt (j * 3 + c) (by omega)]
          exact ⟨_, List.getElem?_eq_getElem (by omega)⟩
        have HCELL : Hid (type_of% hcell) := hcell
        clear hcell
        go_wp2_with fail
        refine (HM0.out _).mono ?_
        rintro e w2 ⟨rfl, hb2⟩
        have o2 := itKept ho hb2
        have g2 := grown_stepI hgr hb2
        clear ho hgr hb2 HM0
        obtain ⟨u0, c0⟩ := HCELL.out _ _ 0 hl3 (by decide) o2
        simp only [Nat.add_zero] at c0
        have f0 := o2.frozenAt (j * 3)
        obtain ⟨S0, _⟩ := o2.stored (j * 3) (.string V0)
        have g3 : w.grownBy (w2.setCell ⟨g, j * 3, none⟩ (.string V0)) (some g) := grown_setI g2
        clear o2 g2
        go_wp2_with fail
        refine (HM1.out _).mono ?_
        rintro e w4 ⟨rfl, hb4⟩
        have o4 := itKept S0 hb4
        have g4 := grown_stepI g3 hb4
        clear S0 g3 hb4 HM1 c0 f0
        have hl4 : (Y.set (j * 3) (.string V0)).length = es.length * 3 := by rw [List.length_set]; exact hl3
        obtain ⟨u1, c1⟩ := HCELL.out _ _ 1 hl4 (by decide) o4
        have f1 := o4.frozenAt (j * 3 + 1)
        obtain ⟨S1, _⟩ := o4.stored (j * 3 + 1) (.string V1)
        have g5 : w.grownBy (w4.setCell ⟨g, j * 3 + 1, none⟩ (.string V1)) (some g) := grown_setI g4
        clear o4 g4
        go_wp2_with fail
        refine (HM2.out _).mono ?_
        rintro e w6 ⟨rfl, hb6⟩
        have o6 := itKept S1 hb6
        have g6 := grown_stepI g5 hb6
        clear S1 g5 hb6 HM2 c1 f1
        have hl5 : ((Y.set (j * 3) (.string V0)).set (j * 3 + 1) (.string V1)).length = es.length * 3 := by rw [List.length_set]; exact hl4
        obtain ⟨u2, c2⟩ := HCELL.out _ _ 2 hl5 (by decide) o6
        have f2 := o6.frozenAt (j * 3 + 2)
        obtain ⟨S2, _⟩ := o6.stored (j * 3 + 2) (.string V2)
        have g7 : w.grownBy (w6.setCell ⟨g, j * 3 + 2, none⟩ (.string V2)) (some g) := grown_setI g6
        rw [HS.out] at S2
        have HS2 : Hid (type_of% S2) := S2
        clear o6 g6 S2 HCELL HS hl3 hl4 hl5
        go_wp2_with fail
        go_roundw
        case rel => exact ⟨j + 1, by omega, by go_num, by have := HK.out; simp; omega, by rw [← HY2.out]; exact HS2.out, g7⟩
        case measure => simp [intOf]; omega
      · have hje : j = es.length := by omega
        subst hje
        rw [halfI_all] at ho
        have HOW : Hid (type_of% ho) := ho
        clear ho
        go_wp2
        go_ret
        exact ⟨rfl, HOW.out, hgr⟩

set_option maxHeartbeats 1600000 in
set_option maxRecDepth 100000 in
theorem lawsHeldIts (v : Value) (n B k0 : Nat) (w : World) (hown : w.ownsRow B 83 3 v n (itV (marksI k0 n))) (hn : n ≤ 4194304) (hk : 1 ≤ k0) (hk2 : k0 ≤ 1000000000) :
    Calls Tryz.prog 68 #[v, .int .i64 k0] w fun e w' => e = .returned (.int .i64 ((k0 + n * 3 : Nat) : Int)) ∧ Below w.heap.size w w' := by
  by_cases hn0 : n = 0
  · subst hn0
    obtain ⟨a, cap, rfl⟩ : ∃ a cap, v = .slice a 0 cap := by
      rcases hown.2 with ⟨e, _⟩ | ⟨g, cap, cur, e, _⟩
      · exact ⟨none, 0, e⟩
      · exact ⟨_, cap, e⟩
    clear hown hn
    go_enter Tryz.func68, Tryz.ntmps68
    go_wp2
    refine wp_loop_rounds 1 ?_
    rw [rounds_succ]
    go_wp2
    go_ret
    exact ⟨rfl, Below.refl _ _⟩
  · obtain ⟨g, cap, rfl⟩ : ∃ g cap, v = .slice (some ⟨g, 0, none⟩) n cap := by
      rcases hown.2 with ⟨_, h⟩ | ⟨g, cap, cur, hv, hg, _⟩
      · exact absurd h hn0
      · exact ⟨g, cap, hv⟩
    have hgl : g < w.heap.size := (hown.lt g rfl).2
    have HC : Hid (∀ j, j < n → w.cell? ⟨g, j * 3, none⟩ = some (.string (markB (k0 + j * 3))) ∧ w.cell? ⟨g, j * 3 + 1, none⟩ = some (.string (markB (k0 + j * 3 + 1))) ∧ w.cell? ⟨g, j * 3 + 2, none⟩ = some (.string (markB (k0 + j * 3 + 2)))) := fun j hj => by
      obtain ⟨a0, a1, a2⟩ := itV_at (marksI k0 n) j (by rw [marksI_length]; exact hj)
      rw [marksI_get k0 n j hj] at a0 a1 a2
      exact ⟨by rw [hown.cellAt (j * 3) (by omega), a0]; rfl, by rw [hown.cellAt (j * 3 + 1) (by omega), a1]; rfl, by rw [hown.cellAt (j * 3 + 2) (by omega), a2]; rfl⟩
    clear hown
    go_enter Tryz.func68, Tryz.ntmps68
    go_wp2
    go_loopw [1, 5] (fun k i wr => ∃ j : Nat, j ≤ n ∧ i = .int .i64 j ∧ k = .int .i64 ((k0 + j * 3 : Nat) : Int) ∧ Below w.heap.size w wr) (fun _ i _ => n - (intOf i).toNat)
    case atStart => exact ⟨0, Nat.zero_le _, rfl, by simp, Below.refl _ _⟩
    case round =>
      obtain ⟨j, hj, rfl, rfl, hbe⟩ := hrel
      by_cases hlt : j < n
      · obtain ⟨K, hK⟩ : ∃ K : Nat, K = k0 + j * 3 := ⟨_, rfl⟩
        obtain ⟨a0, a1, a2⟩ := HC.out j hlt
        rw [← hK] at a0 a1 a2
        have HM0 : Hid (∀ wx : World, Calls Tryz.prog 34 #[.int .i64 (K : Int)] wx fun e w' => e = .returned (.string (markB K)) ∧ Below wx.heap.size wx w') := fun wx => lawsMark K wx (by omega) (by omega)
        have HM1 : Hid (∀ wx : World, Calls Tryz.prog 34 #[.int .i64 ((K : Int) + 1)] wx fun e w' => e = .returned (.string (markB (K + 1))) ∧ Below wx.heap.size wx w') := fun wx => lawsMark (K + 1) wx (by omega) (by omega)
        have HM2 : Hid (∀ wx : World, Calls Tryz.prog 34 #[.int .i64 ((K : Int) + 1 + 1)] wx fun e w' => e = .returned (.string (markB (K + 2))) ∧ Below wx.heap.size wx w') := fun wx => by
          have := lawsMark (K + 2) wx (by omega) (by omega)
          rw [show ((K + 2 : Nat) : Int) = (K : Int) + 1 + 1 from by omega] at this
          exact this
        have hglr : g < wr.heap.size := Nat.lt_of_lt_of_le hgl hbe.size
        have C0 := (hbe.cell (p := ⟨g, j * 3, none⟩) hgl).trans a0
        have C1 := (hbe.cell (p := ⟨g, j * 3 + 1, none⟩) hgl).trans a1
        have C2 := (hbe.cell (p := ⟨g, j * 3 + 2, none⟩) hgl).trans a2
        clear a0 a1 a2
        generalize markB K = V0 at *
        generalize markB (K + 1) = V1 at *
        generalize markB (K + 2) = V2 at *
        rw [show ((k0 + j * 3 : Nat) : Int) = (K : Int) from by rw [hK]]
        have hKb : (K : Int) ≤ 2000000000 := by omega
        have HK : Hid (K = k0 + j * 3) := hK
        clear hK
        have hj0 : (0 : Int) ≤ j := by omega
        have hj1 : (j : Int) < n := by omega
        have r0 : ∀ d os, (grow (redrawn wr d) os).cell? ⟨g, j * 3, none⟩ = _ := fun d os => cell_regrown C0 d os
        have s0 : (V0.toList == V0.toList) = true := beq_self_eq_true _
        have s1 : (V1.toList == V1.toList) = true := beq_self_eq_true _
        have s2 : (V2.toList == V2.toList) = true := beq_self_eq_true _
        go_wp2_with fail
        refine wp_region_quiet_below (by kernel_rfl) (by kernel_rfl) ?_
        repeat (go_big_quiet_step (exact Calls.regrown_of (HM0.out _)))
        refine wpQuiet_nil ?_
        intro _ hw'
        obtain ⟨⟨dq, osq⟩, hw''⟩ := hw'
        subst hw''
        have b1 : Below wr.heap.size wr (grow (redrawn wr dq) osq) := below_regrown wr dq osq
        clear r0
        generalize grow (redrawn wr dq) osq = X at *
        have E1 := (b1.cell (p := ⟨g, j * 3 + 1, none⟩) hglr).trans C1
        have E2 := (b1.cell (p := ⟨g, j * 3 + 2, none⟩) hglr).trans C2
        have hglx : g < X.heap.size := Nat.lt_of_lt_of_le hglr b1.size
        have hbx := hbe.trans (b1.mono hbe.size)
        have r1 : ∀ d os, (grow (redrawn X d) os).cell? ⟨g, j * 3 + 1, none⟩ = _ := fun d os => cell_regrown E1 d os
        clear C0 C1 C2 b1 hbe E1
        go_wp2_with fail
        refine wp_region_quiet_below (by kernel_rfl) (by kernel_rfl) ?_
        repeat (go_big_quiet_step (exact Calls.regrown_of (HM1.out _)))
        refine wpQuiet_nil ?_
        intro _ hw'
        obtain ⟨⟨dq1, osq1⟩, hw''⟩ := hw'
        subst hw''
        have b2 : Below X.heap.size X (grow (redrawn X dq1) osq1) := below_regrown X dq1 osq1
        clear r1
        generalize grow (redrawn X dq1) osq1 = Z at *
        have F2 := (b2.cell (p := ⟨g, j * 3 + 2, none⟩) hglx).trans E2
        have hbz := hbx.trans (b2.mono hbx.size)
        have r2 : ∀ d os, (grow (redrawn Z d) os).cell? ⟨g, j * 3 + 2, none⟩ = _ := fun d os => cell_regrown F2 d os
        clear E2 b2 hbx F2
        go_wp2_with fail
        refine wp_region_quiet_below (by kernel_rfl) (by kernel_rfl) ?_
        repeat (go_big_quiet_step (exact Calls.regrown_of (HM2.out _)))
        refine wpQuiet_nil ?_
        intro _ hw'
        obtain ⟨⟨dq2, osq2⟩, hw''⟩ := hw'
        subst hw''
        have b3 := hbz.trans ((below_regrown Z dq2 osq2).mono hbz.size)
        clear r2 hbz
        generalize grow (redrawn Z dq2) osq2 = Z2 at *
        go_wp2_with fail
        go_roundw
        case rel => exact ⟨j + 1, by omega, by go_num, by have := HK.out; simp; omega, b3⟩
        case measure => simp [intOf]; omega
      · have hje : j = n := by omega
        subst hje
        clear HC
        go_wp2
        go_ret
        exact ⟨rfl, hbe⟩

set_option maxHeartbeats 800000 in
set_option maxRecDepth 100000 in
theorem lawsMarkStore (room : Int) (v : Value) (es : List Itm) (B : Nat) (w : World) (hown : w.ownsRow B 83 3 v es.length (itV es)) (hn : es.length ≤ 4194304) :
    Calls Tryz.prog 14 #[.agg #[.int .i64 room, v], .int .i64 1] w fun e w' => e = .returned (.int .i64 ((1 + es.length * 3 : Nat) : Int)) ∧ w'.ownsRow B 83 3 v es.length (itV (marksI 1 es.length)) ∧ w.grownBy w' v.ownBlock := by
  obtain ⟨a, c, rfl⟩ : ∃ a c, v = .slice a es.length c := by
    rcases hown.2 with ⟨e, h0⟩ | ⟨g, cap, cur, e, _⟩
    · exact ⟨none, 0, by rw [e, h0]⟩
    · exact ⟨_, cap, e⟩
  have hB1 : Below w.heap.size w (w.alloc (.cells #[.int .i64 room, .slice a es.length c] 35)) := (Below.refl _ _).alloc (Nat.le_refl _) _
  have HC := lawsMarkIts _ es B 1 _ (itKept hown hB1) hn (by omega) (by omega)
  have HM : Hid (type_of% HC) := HC
  clear HC hown
  go_enter Tryz.func14, Tryz.ntmps14
  go_wp2_with fail
  refine HM.out.mono ?_
  rintro e w2 ⟨rfl, ho, hg⟩
  have HO : Hid (type_of% ho) := ho
  have hG := grown_transI (grown_stepI (grown_reflI w (Value.slice a es.length c).ownBlock) hB1) hg
  have HG : Hid (type_of% hG) := hG
  clear HM ho hg hG
  go_wp2_with fail
  go_ret
  exact ⟨rfl, HO.out, HG.out⟩

set_option maxHeartbeats 800000 in
set_option maxRecDepth 100000 in
theorem lawsHeldStore (room : Int) (v : Value) (n B : Nat) (w : World) (hown : w.ownsRow B 83 3 v n (itV (marksI 1 n))) (hn : n ≤ 4194304) :
    Calls Tryz.prog 45 #[.agg #[.int .i64 room, v], .int .i64 1] w fun e w' => e = .returned (.int .i64 ((1 + n * 3 : Nat) : Int)) ∧ Below w.heap.size w w' := by
  obtain ⟨a, c, rfl⟩ : ∃ a c, v = .slice a n c := by
    rcases hown.2 with ⟨e, h0⟩ | ⟨g, cap, cur, e, _⟩
    · exact ⟨none, 0, by rw [e, h0]⟩
    · exact ⟨_, cap, e⟩
  have hB1 : Below w.heap.size w (w.alloc (.cells #[.int .i64 room, .slice a n c] 35)) := (Below.refl _ _).alloc (Nat.le_refl _) _
  have HC := lawsHeldIts _ n B 1 _ (itKept hown hB1) hn (by omega) (by omega)
  have HM : Hid (type_of% HC) := HC
  clear HC hown
  obtain ⟨q, hq⟩ : ∃ q : Nat, q = 1 + n * 3 := ⟨_, rfl⟩
  rw [← hq] at HM ⊢
  clear hq
  have hq0 : ¬ (q : Int) < 0 := by omega
  go_enter Tryz.func45, Tryz.ntmps45
  go_wp2_with fail
  refine HM.out.mono ?_
  rintro e w2 ⟨rfl, hb2⟩
  have hw := hB1.trans (hb2.mono hB1.size)
  clear HM hb2
  go_wp2_with fail
  go_ret
  exact ⟨rfl, hw⟩

end Go.Proofs.YtllbfbllkefjeaaGreatDoor

namespace Go.Proofs.YtllbfbllkefjeaaGreatDoor
open Go.RowKit

set_option maxHeartbeats 800000 in
set_option maxRecDepth 100000 in
theorem lawsMarkStoreK (room : Int) (v : Value) (es : List Itm) (B k0 : Nat) (w : World) (hown : w.ownsRow B 83 3 v es.length (itV es)) (hn : es.length ≤ 4194304) (hk : 1 ≤ k0) (hk2 : k0 ≤ 1000000000) :
    Calls Tryz.prog 14 #[.agg #[.int .i64 room, v], .int .i64 k0] w fun e w' => e = .returned (.int .i64 ((k0 + es.length * 3 : Nat) : Int)) ∧ w'.ownsRow B 83 3 v es.length (itV (marksI k0 es.length)) ∧ w.grownBy w' v.ownBlock := by
  obtain ⟨a, c, rfl⟩ := slice_ownS hown
  have hB1 : Below w.heap.size w (w.alloc (.cells #[.int .i64 room, .slice a es.length c] 35)) := (Below.refl _ _).alloc (Nat.le_refl _) _
  have HC := lawsMarkIts _ es B k0 _ (itKept hown hB1) hn hk hk2
  have HM : Hid (type_of% HC) := HC
  clear HC hown
  go_enter Tryz.func14, Tryz.ntmps14
  go_wp2_with fail
  refine HM.out.mono ?_
  rintro e w2 ⟨rfl, ho, hg⟩
  have HO : Hid (type_of% ho) := ho
  have hG := grown_transI (grown_stepI (grown_reflI w (Value.slice a es.length c).ownBlock) hB1) hg
  have HG : Hid (type_of% hG) := hG
  clear HM ho hg hG
  go_wp2_with fail
  go_ret
  exact ⟨rfl, HO.out, HG.out⟩

set_option maxHeartbeats 800000 in
set_option maxRecDepth 100000 in
theorem lawsHeldStoreK (room : Int) (v : Value) (n B k0 : Nat) (w : World) (hown : w.ownsRow B 83 3 v n (itV (marksI k0 n))) (hn : n ≤ 4194304) (hk : 1 ≤ k0) (hk2 : k0 ≤ 1000000000) :
    Calls Tryz.prog 45 #[.agg #[.int .i64 room, v], .int .i64 k0] w fun e w' => e = .returned (.int .i64 ((k0 + n * 3 : Nat) : Int)) ∧ Below w.heap.size w w' := by
  obtain ⟨a, c, rfl⟩ := slice_ownS hown
  have hB1 : Below w.heap.size w (w.alloc (.cells #[.int .i64 room, .slice a n c] 35)) := (Below.refl _ _).alloc (Nat.le_refl _) _
  have HC := lawsHeldIts _ n B k0 _ (itKept hown hB1) hn hk hk2
  have HM : Hid (type_of% HC) := HC
  clear HC hown
  obtain ⟨q, hq⟩ : ∃ q : Nat, q = k0 + n * 3 := ⟨_, rfl⟩
  rw [← hq] at HM ⊢
  clear hq
  have hq0 : ¬ (q : Int) < 0 := by omega
  go_enter Tryz.func45, Tryz.ntmps45
  go_wp2_with fail
  refine HM.out.mono ?_
  rintro e w2 ⟨rfl, hb2⟩
  have hw := hB1.trans (hb2.mono hB1.size)
  clear HM hb2
  go_wp2_with fail
  go_ret
  exact ⟨rfl, hw⟩

abbrev rowS (a : Option Addr) (c : Nat) (n : Nat) (S : List Src) : RowS := ⟨57, 2, .slice a n c, n, flatA SrF S⟩
abbrev rowU (a : Option Addr) (c : Nat) (n : Nat) (U : List Bool) : RowS := ⟨4, 1, .slice a n c, n, flatA BoF U⟩
abbrev rowI (a : Option Addr) (c : Nat) (n : Nat) (I : List Itm) : RowS := ⟨83, 3, .slice a n c, n, itV I⟩

set_option maxHeartbeats 1600000 in
set_option maxRecDepth 100000 in
theorem lawsMarkFarm (w X : World) (bx : List BoxS) (l : List RowS) (a1 a2 a3 : Option Addr) (c1 c2 c3 : Nat) (S : List Src) (U : List Bool) (I : List Itm) (wt ck ep rm : Int) (h : GMem w X bx (rowS a1 c1 S.length S :: rowU a2 c2 U.length U :: rowI a3 c3 I.length I :: l)) (hS : S.length ≤ 4194304) (hU : U.length ≤ 4194304) (hI : I.length ≤ 4194304) :
    Calls Tryz.prog 15 #[.agg #[.slice a1 S.length c1, .int .i64 wt, .slice a2 U.length c2, .int .i64 ck, .int .i64 ep, .slice none 0 0, .slice none 0 0, .slice none 0 0, .int .i64 rm, .slice a3 I.length c3], .int .i64 1] X fun e w' => e = .returned (.int .i64 ((1 + S.length * 2 + U.length + I.length * 3 : Nat) : Int)) ∧ GMem w w' bx (rowS a1 c1 S.length (marksA 2 mkSr 1 S.length) :: rowU a2 c2 U.length (marksA 1 mkBo (1 + S.length * 2) U.length) :: rowI a3 c3 I.length (marksI (1 + S.length * 2 + U.length) I.length) :: l) := by
  obtain ⟨k1, hk1⟩ : ∃ k1 : Nat, k1 = 1 + S.length * 2 := ⟨_, rfl⟩
  obtain ⟨k2, hk2⟩ : ∃ k2 : Nat, k2 = k1 + U.length := ⟨_, rfl⟩
  obtain ⟨k3, hk3⟩ : ∃ k3 : Nat, k3 = k2 + I.length * 3 := ⟨_, rfl⟩
  have hb1 : 1 ≤ k1 ∧ k1 ≤ 1000000000 := by omega
  have hb2 : 1 ≤ k2 ∧ k2 ≤ 1000000000 := by omega
  rw [← hk1, ← hk2, ← hk3]
  have h1 := h.addBox #[.slice a1 S.length c1, .int .i64 wt, .slice a2 U.length c2, .int .i64 ck, .int .i64 ep, .slice none 0 0, .slice none 0 0, .slice none 0 0, .int .i64 rm, .slice a3 I.length c3] 37
  have H1 : Hid (type_of% h1) := h1
  have M1 := lawsMarkSrs _ S w.heap.size 1 _ (h1.row _ (List.mem_cons_self ..)) hS (by omega) (by omega)
  rw [← hk1] at M1
  have HM1 : Hid (type_of% M1) := M1
  have HM2 : Hid (∀ Y, GMem w Y ((X.heap.size, #[.slice a1 S.length c1, .int .i64 wt, .slice a2 U.length c2, .int .i64 ck, .int .i64 ep, .slice none 0 0, .slice none 0 0, .slice none 0 0, .int .i64 rm, .slice a3 I.length c3], 37) :: bx) (rowS a1 c1 S.length (marksA 2 mkSr 1 S.length) :: rowU a2 c2 U.length U :: rowI a3 c3 I.length I :: l) → Calls Tryz.prog 36 #[.slice a2 U.length c2, .int .i64 (k1 : Int)] Y fun e w' => e = .returned (.int .i64 (k2 : Int)) ∧ GMem w w' ((X.heap.size, #[.slice a1 S.length c1, .int .i64 wt, .slice a2 U.length c2, .int .i64 ck, .int .i64 ep, .slice none 0 0, .slice none 0 0, .slice none 0 0, .int .i64 rm, .slice a3 I.length c3], 37) :: bx) (rowS a1 c1 S.length (marksA 2 mkSr 1 S.length) :: rowU a2 c2 U.length (marksA 1 mkBo k1 U.length) :: rowI a3 c3 I.length I :: l)) := fun Y hY => by
    refine (lawsMarkBos _ U w.heap.size k1 Y (hY.row (rowU a2 c2 U.length U) (by simp)) hU hb1.1 hb1.2).mono ?_
    rintro e w' ⟨h1, h2, h3⟩
    rw [← hk2] at h1
    exact ⟨h1, hY.mark (l1 := [rowS a1 c1 S.length (marksA 2 mkSr 1 S.length)]) _ h3 h2⟩
  have HM3 : Hid (∀ Y, GMem w Y ((X.heap.size, #[.slice a1 S.length c1, .int .i64 wt, .slice a2 U.length c2, .int .i64 ck, .int .i64 ep, .slice none 0 0, .slice none 0 0, .slice none 0 0, .int .i64 rm, .slice a3 I.length c3], 37) :: bx) (rowS a1 c1 S.length (marksA 2 mkSr 1 S.length) :: rowU a2 c2 U.length (marksA 1 mkBo k1 U.length) :: rowI a3 c3 I.length I :: l) → Calls Tryz.prog 14 #[.agg #[.int .i64 rm, .slice a3 I.length c3], .int .i64 (k2 : Int)] Y fun e w' => e = .returned (.int .i64 (k3 : Int)) ∧ GMem w w' ((X.heap.size, #[.slice a1 S.length c1, .int .i64 wt, .slice a2 U.length c2, .int .i64 ck, .int .i64 ep, .slice none 0 0, .slice none 0 0, .slice none 0 0, .int .i64 rm, .slice a3 I.length c3], 37) :: bx) (rowS a1 c1 S.length (marksA 2 mkSr 1 S.length) :: rowU a2 c2 U.length (marksA 1 mkBo k1 U.length) :: rowI a3 c3 I.length (marksI k2 I.length) :: l)) := fun Y hY => by
    refine (lawsMarkStoreK rm _ I w.heap.size k2 Y (hY.row (rowI a3 c3 I.length I) (by simp)) hI hb2.1 hb2.2).mono ?_
    rintro e w' ⟨h1, h2, h3⟩
    rw [← hk3] at h1
    exact ⟨h1, hY.mark (l1 := [rowS a1 c1 S.length (marksA 2 mkSr 1 S.length), rowU a2 c2 U.length (marksA 1 mkBo k1 U.length)]) _ h3 h2⟩
  have HCE : Hid (∀ Y R, GMem w Y ((X.heap.size, #[.slice a1 S.length c1, .int .i64 wt, .slice a2 U.length c2, .int .i64 ck, .int .i64 ep, .slice none 0 0, .slice none 0 0, .slice none 0 0, .int .i64 rm, .slice a3 I.length c3], 37) :: bx) R → TenR Y X.heap.size (.slice a1 S.length c1) (.int .i64 wt) (.slice a2 U.length c2) (.int .i64 ck) (.int .i64 ep) (.slice none 0 0) (.slice none 0 0) (.slice none 0 0) (.int .i64 rm) (.slice a3 I.length c3)) := fun Y R hY => tenR_of (hY.box _ (List.mem_cons_self ..))
  have HEND : Hid (∀ Y R, GMem w Y ((X.heap.size, #[.slice a1 S.length c1, .int .i64 wt, .slice a2 U.length c2, .int .i64 ck, .int .i64 ep, .slice none 0 0, .slice none 0 0, .slice none 0 0, .int .i64 rm, .slice a3 I.length c3], 37) :: bx) R → GMem w Y bx R) := fun Y R hY => ⟨hY.bel, fun e he => hY.box e (List.mem_cons_of_mem _ he), hY.row, hY.dif, fun e he => hY.apa e (List.mem_cons_of_mem _ he)⟩
  clear h h1 M1 hk1 hk2 hk3 hb1 hb2
  go_enter Tryz.func15, Tryz.ntmps15
  go_wp2_with fail
  refine HM1.out.mono ?_
  rintro e w2 ⟨rfl, ho, hg⟩
  have h2 := H1.out.mark (l1 := []) _ hg ho
  obtain ⟨y0, y1, y2, y3, y4, y5, y6, y7, y8, y9⟩ := HCE.out _ _ h2
  have M2 := HM2.out _ h2
  have HM2' : Hid (type_of% M2) := M2
  clear HM1 H1 ho hg h2 M2 HM2
  go_wp2_with fail
  refine HM2'.out.mono ?_
  rintro e w3 ⟨rfl, h3⟩
  clear y0 y1 y2 y3 y4 y5 y6 y7 y8 y9 HM2'
  obtain ⟨y0, y1, y2, y3, y4, y5, y6, y7, y8, y9⟩ := HCE.out _ _ h3
  have M3 := HM3.out _ h3
  have HM3' : Hid (type_of% M3) := M3
  clear h3 M3 HM3
  go_wp2_with (first
    | (go_at_call 37; refine (markLe0 k2 _).mono ?_; rintro e w4 ⟨rfl, hw⟩; subst hw)
    | (go_at_call 38; refine (markRs0 k2 _).mono ?_; rintro e w5 ⟨rfl, hw⟩; subst hw)
    | (go_at_call 39; refine (markPa0 k2 _).mono ?_; rintro e w6 ⟨rfl, hw⟩; subst hw)
    | (go_at_call 14; refine HM3'.out.mono ?_; rintro e w7 ⟨rfl, h7⟩))
  go_ret
  exact ⟨rfl, HEND.out _ _ h7⟩

set_option maxHeartbeats 1600000 in
set_option maxRecDepth 100000 in
theorem lawsHeldFarm (w X : World) (bx : List BoxS) (l : List RowS) (a1 a2 a3 : Option Addr) (n1 n2 n3 c1 c2 c3 : Nat) (wt ck ep rm : Int) (h : GMem w X bx (rowS a1 c1 n1 (marksA 2 mkSr 1 n1) :: rowU a2 c2 n2 (marksA 1 mkBo (1 + n1 * 2) n2) :: rowI a3 c3 n3 (marksI (1 + n1 * 2 + n2) n3) :: l)) (hS : n1 ≤ 4194304) (hU : n2 ≤ 4194304) (hI : n3 ≤ 4194304) :
    Calls Tryz.prog 16 #[.agg #[.slice a1 n1 c1, .int .i64 wt, .slice a2 n2 c2, .int .i64 ck, .int .i64 ep, .slice none 0 0, .slice none 0 0, .slice none 0 0, .int .i64 rm, .slice a3 n3 c3], .int .i64 1] X fun e w' => e = .returned (.int .i64 ((1 + n1 * 2 + n2 + n3 * 3 : Nat) : Int)) ∧ Below X.heap.size X w' := by
  obtain ⟨k1, hk1⟩ : ∃ k1 : Nat, k1 = 1 + n1 * 2 := ⟨_, rfl⟩
  obtain ⟨k2, hk2⟩ : ∃ k2 : Nat, k2 = k1 + n2 := ⟨_, rfl⟩
  obtain ⟨k3, hk3⟩ : ∃ k3 : Nat, k3 = k2 + n3 * 3 := ⟨_, rfl⟩
  have hb1 : 1 ≤ k1 ∧ k1 ≤ 1000000000 := by omega
  have hb2 : 1 ≤ k2 ∧ k2 ≤ 1000000000 := by omega
  rw [← hk1, ← hk2] at h
  rw [← hk1, ← hk2, ← hk3]
  have hq1 : ¬ (k1 : Int) < 0 := by omega
  have hq2 : ¬ (k2 : Int) < 0 := by omega
  have hq3 : ¬ (k3 : Int) < 0 := by omega
  have hB : Below X.heap.size X (X.alloc (.cells #[.slice a1 n1 c1, .int .i64 wt, .slice a2 n2 c2, .int .i64 ck, .int .i64 ep, .slice none 0 0, .slice none 0 0, .slice none 0 0, .int .i64 rm, .slice a3 n3 c3] 37)) := (Below.refl _ _).alloc (Nat.le_refl _) _
  have h1 := h.below hB
  have M1 := lawsHeldSrs _ n1 w.heap.size 1 _ (h1.row _ (List.mem_cons_self ..)) hS (by omega) (by omega)
  rw [← hk1] at M1
  have HM1 : Hid (type_of% M1) := M1
  have HM2 : Hid (∀ Y, Below X.heap.size X Y → Calls Tryz.prog 41 #[.slice a2 n2 c2, .int .i64 (k1 : Int)] Y fun e w' => e = .returned (.int .i64 (k2 : Int)) ∧ Below Y.heap.size Y w') := fun Y hY => by
    have := lawsHeldBos _ n2 w.heap.size k1 Y ((h.below hY).row (rowU a2 c2 n2 (marksA 1 mkBo k1 n2)) (by simp)) hU hb1.1 hb1.2
    rw [← hk2] at this
    exact this
  have HM3 : Hid (∀ Y, Below X.heap.size X Y → Calls Tryz.prog 45 #[.agg #[.int .i64 rm, .slice a3 n3 c3], .int .i64 (k2 : Int)] Y fun e w' => e = .returned (.int .i64 (k3 : Int)) ∧ Below Y.heap.size Y w') := fun Y hY => by
    have := lawsHeldStoreK rm _ n3 w.heap.size k2 Y ((h.below hY).row (rowI a3 c3 n3 (marksI k2 n3)) (by simp)) hI hb2.1 hb2.2
    rw [← hk3] at this
    exact this
  have HCE : Hid (∀ Y, Below (X.heap.size + 1) (X.alloc (.cells #[.slice a1 n1 c1, .int .i64 wt, .slice a2 n2 c2, .int .i64 ck, .int .i64 ep, .slice none 0 0, .slice none 0 0, .slice none 0 0, .int .i64 rm, .slice a3 n3 c3] 37)) Y → TenR Y X.heap.size (.slice a1 n1 c1) (.int .i64 wt) (.slice a2 n2 c2) (.int .i64 ck) (.int .i64 ep) (.slice none 0 0) (.slice none 0 0) (.slice none 0 0) (.int .i64 rm) (.slice a3 n3 c3) ∧ Below X.heap.size X Y) := fun Y hY => ⟨tenR_of ((hY.block X.heap.size (by omega)).trans (MapKept.heap_alloc X _).1), hB.trans (hY.mono (by omega))⟩
  clear h h1 M1 hk1 hk2 hk3 hb1 hb2 hB
  go_enter Tryz.func16, Tryz.ntmps16
  go_wp2_with fail
  refine HM1.out.mono ?_
  rintro e w2 ⟨rfl, hb2⟩
  have D2 : Below (X.heap.size + 1) (X.alloc (.cells #[.slice a1 n1 c1, .int .i64 wt, .slice a2 n2 c2, .int .i64 ck, .int .i64 ep, .slice none 0 0, .slice none 0 0, .slice none 0 0, .int .i64 rm, .slice a3 n3 c3] 37)) w2 := hb2.mono (by simp)
  have hz2 : X.heap.size + 1 ≤ w2.heap.size := by have := hb2.size; simpa using this
  clear HM1 hb2
  obtain ⟨⟨y0, y1, y2, y3, y4, y5, y6, y7, y8, y9⟩, hw2⟩ := HCE.out _ D2
  go_wp2_with fail
  refine (HM2.out _ hw2).mono ?_
  rintro e w3 ⟨rfl, hb3⟩
  have D3 := D2.trans (hb3.mono hz2)
  have hz3 := Nat.le_trans hz2 hb3.size
  clear y0 y1 y2 y3 y4 y5 y6 y7 y8 y9 HM2 D2 hz2 hb3
  obtain ⟨⟨y0, y1, y2, y3, y4, y5, y6, y7, y8, y9⟩, hw3⟩ := HCE.out _ D3
  go_wp2_with (first
    | (go_at_call 42; refine (heldLe0 k2 _).mono ?_; rintro e w4 ⟨rfl, hw⟩; subst hw)
    | (go_at_call 43; refine (heldRs0 k2 _).mono ?_; rintro e w5 ⟨rfl, hw⟩; subst hw)
    | (go_at_call 44; refine (heldPa0 k2 _).mono ?_; rintro e w6 ⟨rfl, hw⟩; subst hw)
    | (go_at_call 45; refine (HM3.out _ hw3).mono ?_; rintro e w7 ⟨rfl, hb7⟩))
  go_ret
  exact ⟨rfl, hw3.trans (hb7.mono hw3.size)⟩

end Go.Proofs.YtllbfbllkefjeaaGreatDoor

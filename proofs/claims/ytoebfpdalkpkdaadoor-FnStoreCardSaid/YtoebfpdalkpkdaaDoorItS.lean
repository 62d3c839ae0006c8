/-
  When a store is right; the walk of spec.StoreOk.
-/
import Derived.Test.YtoebfpdalkpkdaaDoorItD
import Derived.Test.YtoebfpdalkpkdaaDoorKeyW
namespace Go.Proofs.YtoebfpdalkpkdaaDoor
open Go.RowKit
open Go.Sort (grow)

/-- room for nothing up to 100, not more items than room, each with the key of its input, no two of one input -/
def StoreRight (room : Int) (es : List Itm) : Prop :=
  (∀ j (h : j < es.length), es[j].1 = keyB es[j].2.1 ∧ ∀ i (hi : i < j), (es[i]'(by omega)).2.1 ≠ es[j].2.1) ∧ 0 ≤ room ∧ room ≤ 100 ∧ (es.length : Int) ≤ room

theorem it_same {a b : ByteArray} (h : a = b) : (a.toList == b.toList) = true := by rw [h]; exact beq_self_eq_true _
theorem it_other {a b : ByteArray} (h : ¬ a = b) : (a.toList == b.toList) = false := by
  rw [beq_eq_false_iff_ne]
  intro e
  refine h ?_
  rw [ByteArray.toList_eq, ByteArray.toList_eq] at e
  obtain ⟨⟨x⟩⟩ := a
  obtain ⟨⟨y⟩⟩ := b
  exact congrArg _ (congrArg _ e)

set_option maxHeartbeats 800000 in
set_option maxRecDepth 100000 in
theorem specIn (x lo hi : Int) (w : World) : Calls Tryd.prog 28 #[.int .i64 x, .int .i64 lo, .int .i64 hi] w fun e w' => e = .returned (.bool (decide (lo ≤ x) && decide (x ≤ hi))) ∧ w' = w := by
  by_cases h1 : lo ≤ x
  · by_cases h2 : x ≤ hi
    · go_enter Tryd.func28, Tryd.ntmps28
      go_wp2
      go_ret
      exact ⟨by simp [h1, h2], rfl⟩
    · have HR : Hid ((decide (lo ≤ x) && decide (x ≤ hi)) = false) := by
        show _ = _
        rw [decide_eq_false h2, Bool.and_false]
      rw [HR.out]
      go_enter Tryd.func28, Tryd.ntmps28
      go_wp2
      go_ret
      exact ⟨rfl, rfl⟩
  · have HR : Hid ((decide (lo ≤ x) && decide (x ≤ hi)) = false) := by
      show _ = _
      rw [decide_eq_false h1, Bool.false_and]
    rw [HR.out]
    go_enter Tryd.func28, Tryd.ntmps28
    go_wp2
    go_ret
    exact ⟨rfl, rfl⟩

/-- what is asked of the item at j -/
def ItFine (es : List Itm) (j : Nat) (h : j < es.length) : Prop := es[j].1 = keyB es[j].2.1 ∧ ∀ i (hi : i < j), (es[i]'(by omega)).2.1 ≠ es[j].2.1

set_option maxHeartbeats 1600000 in
set_option maxRecDepth 100000 in
open Classical in
theorem specStoreOk (room : Int) (v : Value) (es : List Itm) (w : World) (hrow : ItAt w v es) (hb : itsBulk es ≤ 4194304) :
    Calls Tryd.prog 9 #[.agg #[.int .i64 room, v]] w fun e w' => e = .returned (.bool (decide (StoreRight room es))) ∧ Below w.heap.size w w' := by
  obtain ⟨av, capv, rfl, hel⟩ := itOpen hrow
  have hlen : es.length ≤ 4194304 := by unfold itsBulk at hb; omega
  obtain ⟨RR, hRR⟩ : ∃ RR, RR = decide (StoreRight room es) := ⟨_, rfl⟩
  rw [← hRR]
  have HNO : Hid (¬ StoreRight room es → RR = false) := fun h => by rw [hRR]; exact decide_eq_false h
  have HYES : Hid (StoreRight room es → RR = true) := fun h => by rw [hRR]; exact decide_eq_true h
  have hB1 : Below w.heap.size w (w.alloc (.cells #[.int .i64 room, .slice av es.length capv] 29)) := (Below.refl _ _).alloc (Nat.le_refl _) _
  have hz1 : w.heap.size < (w.alloc (.cells #[.int .i64 room, .slice av es.length capv] 29)).heap.size := by simp
  have k0 : (w.alloc (.cells #[.int .i64 room, .slice av es.length capv] 29)).cell? ⟨w.heap.size, 0, none⟩ = some (.int .i64 room) := by simp
  have k1 : (w.alloc (.cells #[.int .i64 room, .slice av es.length capv] 29)).cell? ⟨w.heap.size, 1, none⟩ = some (.slice av es.length capv) := by simp
  have HEL : Hid (∀ j (h : j < es.length), ∃ b off, av = some ⟨b, off, none⟩ ∧ b < (w.alloc (.cells #[.int .i64 room, .slice av es.length capv] 29)).heap.size ∧ (w.alloc (.cells #[.int .i64 room, .slice av es.length capv] 29)).cell? ⟨b, off + j * 3, none⟩ = some (.string es[j].1) ∧ (w.alloc (.cells #[.int .i64 room, .slice av es.length capv] 29)).cell? ⟨b, off + j * 3 + 1, none⟩ = some (.string es[j].2.1)) := fun j h => by
    obtain ⟨b, off, e, hbl, q0, q1, _⟩ := hel j h
    exact ⟨b, off, e, Nat.lt_trans hbl hz1, (hB1.cell (p := ⟨b, off + j * 3, none⟩) hbl).trans q0, (hB1.cell (p := ⟨b, off + j * 3 + 1, none⟩) hbl).trans q1⟩
  have HB : Hid (type_of% hb) := hb
  clear hRR hel hrow hb
  go_enter Tryd.func9, Tryd.ntmps9
  go_wp2_with fail
  generalize (w.alloc (.cells #[.int .i64 room, .slice av es.length capv] 29)) = W1 at *
  go_loopw [3] (fun i wr => ∃ k : Nat, k ≤ es.length ∧ i = .int .i64 k ∧ (∀ j (h : j < es.length), j < k → ItFine es j h) ∧ Below W1.heap.size W1 wr) (fun i _ => es.length - (intOf i).toNat)
  case atStart => exact ⟨0, Nat.zero_le _, rfl, fun j _ h => absurd h (by omega), Below.refl _ _⟩
  case round =>
    obtain ⟨k, hk, rfl, hall, hbe⟩ := hrel
    have HALL : Hid (type_of% hall) := hall
    clear hall
    have K0 := (hbe.cell (p := ⟨w.heap.size, 0, none⟩) hz1).trans k0
    have K1 := (hbe.cell (p := ⟨w.heap.size, 1, none⟩) hz1).trans k1
    by_cases hlt : k < es.length
    · obtain ⟨b, off, rfl, hbl, q0, q1⟩ := HEL.out k hlt
      have c0 := (hbe.cell (p := ⟨b, off + k * 3, none⟩) hbl).trans q0
      have c1 := (hbe.cell (p := ⟨b, off + k * 3 + 1, none⟩) hbl).trans q1
      have r0 : ∀ d os, (grow (redrawn wr d) os).cell? ⟨b, off + k * 3, none⟩ = _ := fun d os => cell_regrown c0 d os
      have r1 : ∀ d os, (grow (redrawn wr d) os).cell? ⟨b, off + k * 3 + 1, none⟩ = _ := fun d os => cell_regrown c1 d os
      have rs : ∀ d os, (grow (redrawn wr d) os).cell? ⟨w.heap.size, 1, none⟩ = _ := fun d os => cell_regrown K1 d os
      have hbk := it_bulk es k hlt
      have hB := HB.out
      have HND : Hid (∀ wx : World, Calls Tryd.prog 27 #[.string es[k].2.1] wx fun e w' => e = .returned (.string (keyB es[k].2.1)) ∧ Below wx.heap.size wx w') := fun wx => (specKey _ wx (by omega)).mono fun e w' h => ⟨h.1, h.2 ▸ Below.refl _ _⟩
      have hk0i : (0 : Int) ≤ (k : Int) := by omega
      have hk1i : (k : Int) < (es.length : Int) := by omega
      clear q0 q1 hbk hB
      by_cases hd : es[k].1 = keyB es[k].2.1
      · have hcmp := it_same hd
        have HNEW : Hid ((∀ i (hi : i < k), (es[i]'(by omega)).2.1 ≠ es[k].2.1) → ∀ j (h : j < es.length), j < k + 1 → ItFine es j h) := fun hne j hj hjk => by
          by_cases c : j = k
          · subst c
            exact ⟨hd, hne⟩
          · exact HALL.out j hj (by omega)
        have HBAD : Hid (∀ i (hi : i < k), (es[i]'(by omega)).2.1 = es[k].2.1 → RR = false) := fun i hi e => HNO.out fun h => (h.1 k hlt).2 i hi e
        generalize keyB es[k].2.1 = ky at *
        generalize es[k].1 = x at *
        clear hd HALL HNO
        go_wp2_with fail
        refine wp_region_quiet_below (by kernel_rfl) (by kernel_rfl) ?_
        repeat (go_big_quiet_step (exact Calls.regrown_of (HND.out _)))
        refine wpQuiet_nil ?_
        intro _ hw'
        obtain ⟨⟨dq, osq⟩, hw''⟩ := hw'
        subst hw''
        have D2 := hbe.trans ((below_regrown wr dq osq).mono hbe.size)
        clear r0 r1 rs
        generalize grow (redrawn wr dq) osq = w2 at *
        clear K0 K1 c0 c1 hbe
        go_wp2_with fail
        go_loopw [4] (fun i wm => ∃ m : Nat, m ≤ k ∧ i = .int .i64 m ∧ (∀ i (hi : i < m) (hk : i < k), (es[i]'(by omega)).2.1 ≠ es[k].2.1) ∧ Below W1.heap.size W1 wm) (fun i _ => k - (intOf i).toNat)
        case atStart => exact ⟨0, Nat.zero_le _, rfl, fun j h => absurd h (by omega), D2⟩
        case round =>
          obtain ⟨m, hm, rfl, hne, hbm⟩ := hrel
          have HNE : Hid (type_of% hne) := hne
          clear hne D2
          by_cases hlm : m < k
          · obtain ⟨b', off', e', _, p0, p1⟩ := HEL.out m (by omega)
            simp only [Option.some.injEq, Addr.mk.injEq, and_true] at e'
            obtain ⟨rfl, rfl⟩ := e'
            obtain ⟨b', off', e', _, _, q1⟩ := HEL.out k hlt
            simp only [Option.some.injEq, Addr.mk.injEq, and_true] at e'
            obtain ⟨rfl, rfl⟩ := e'
            have C1 := (hbm.cell (p := ⟨b, off + k * 3 + 1, none⟩) hbl).trans q1
            have P1 := (hbm.cell (p := ⟨b, off + m * 3 + 1, none⟩) hbl).trans p1
            have K1 := (hbm.cell (p := ⟨w.heap.size, 1, none⟩) hz1).trans k1
            have hm0i : (0 : Int) ≤ (m : Int) := by omega
            have hm1i : (m : Int) < (es.length : Int) := by omega
            by_cases hq : (es[m]'(by omega)).2.1 = es[k].2.1
            · have HR : Hid (RR = false) := HBAD.out m hlm hq
              have hcm := it_same hq
              clear hq HNE HBAD HNEW HEL HB HYES p0 p1 q1 k0 k1 HND
              generalize es[k].2.1 = y at *
              generalize (es[m]'(by omega)).2.1 = z at *
              go_wp2_with fail
              go_quiet (fail)
              go_wp2_with fail
              go_ret
              exact ⟨by rw [HR.out]; rfl, hB1.trans ((below_drewN hbm _).mono (by omega))⟩
            · have HNE2 : Hid (∀ i (hi : i < m + 1) (hk : i < k), (es[i]'(by omega)).2.1 ≠ es[k].2.1) := fun i hi hik => by
                by_cases c : i = m
                · subst c; exact hq
                · exact HNE.out i (by omega) hik
              have hcm := it_other hq
              clear hq HNE HBAD HNEW HEL HB HYES p0 p1 q1 k0 k1 HND
              generalize hyy : es[k].2.1 = y at C1 hcm
              generalize hzz : (es[m]'(by omega)).2.1 = z at P1 hcm
              have HY : Hid (type_of% hyy) := hyy
              clear hyy hzz
              go_wp2_with fail
              go_quiet (fail)
              go_wp2_with fail
              go_roundw
              case rel => exact ⟨m + 1, by omega, by go_num, fun i hi hik => by rw [← HY.out]; exact HNE2.out i hi hik, below_drewN hbm _⟩
              case measure => simp [intOf]; omega
          · have HA2 : Hid (type_of% (HNEW.out fun i hi => HNE.out i (by omega) hi)) := HNEW.out fun i hi => HNE.out i (by omega) hi
            clear HNE HBAD HNEW HEL HB HYES k0 k1 HND
            go_wp2_with fail
            go_roundw
            case rel => exact ⟨k + 1, by omega, by go_num, HA2.out, hbm⟩
            case measure => simp [intOf]; omega
      · have HR : Hid (RR = false) := HNO.out fun h => hd (h.1 k hlt).1
        have hcmp := it_other hd
        generalize keyB es[k].2.1 = ky at *
        generalize es[k].2.1 = y at *
        generalize es[k].1 = x at *
        clear hd HNO HYES HALL HEL HB
        go_wp2_with fail
        refine wp_region_quiet_below (by kernel_rfl) (by kernel_rfl) ?_
        repeat (go_big_quiet_step (exact Calls.regrown_of (HND.out _)))
        refine wpQuiet_nil ?_
        intro _ hw'
        obtain ⟨⟨dq, osq⟩, hw''⟩ := hw'
        subst hw''
        have D2 := hbe.trans ((below_regrown wr dq osq).mono hbe.size)
        clear r0 r1 rs
        generalize grow (redrawn wr dq) osq = w2 at *
        go_wp2_with fail
        go_ret
        exact ⟨by rw [HR.out]; rfl, hB1.trans (D2.mono (by omega))⟩
    · have hke : k = es.length := by omega
      have HIN := fun wx => specIn room 0 100 wx
      have HI : Hid (type_of% HIN) := HIN
      have HR : Hid (((decide (0 ≤ room) && decide (room ≤ 100)) && decide ((es.length : Int) ≤ room)) = RR) := by
        show _ = _
        by_cases h : StoreRight room es
        · rw [HYES.out h, decide_eq_true h.2.1, decide_eq_true h.2.2.1, decide_eq_true h.2.2.2]
          rfl
        · rw [HNO.out h]
          by_cases a : 0 ≤ room
          · by_cases b : room ≤ 100
            · by_cases c : (es.length : Int) ≤ room
              · exact absurd ⟨fun j hj => HALL.out j hj (by omega), a, b, c⟩ h
              · rw [decide_eq_false c, Bool.and_false]
            · rw [decide_eq_false b, Bool.and_false, Bool.false_and]
          · rw [decide_eq_false a, Bool.false_and, Bool.false_and]
      clear HNO HYES HALL HEL HB HIN
      cases hd : (decide (0 ≤ room) && decide (room ≤ 100)) with
      | true =>
        rw [hd] at HI HR
        go_wp2_with (go_at_call 28; refine (HI.out _).mono ?_; rintro e w2 ⟨rfl, rfl⟩)
        go_ret
        exact ⟨by rw [← HR.out]; rfl, hB1.trans (hbe.mono (by omega))⟩
      | false =>
        rw [hd] at HI HR
        go_wp2_with (go_at_call 28; refine (HI.out _).mono ?_; rintro e w2 ⟨rfl, rfl⟩)
        go_ret
        exact ⟨by rw [← HR.out]; rfl, hB1.trans (hbe.mono (by omega))⟩

end Go.Proofs.YtoebfpdalkpkdaaDoor

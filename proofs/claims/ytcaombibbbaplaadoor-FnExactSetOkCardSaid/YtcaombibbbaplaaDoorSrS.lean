/-
  When sources are a set of modules; the walk of spec.SetOk.
-/
import Derived.Test.YtcaombibbbaplaaDoorSrD
import Derived.Test.YtcaombibbbaplaaDoorNameW
namespace Go.Proofs.YtcaombibbbaplaaDoor
open Go.RowKit
open Go.Sort (grow)

def srLess (a b : ByteArray) : Prop := a.data.toList < b.data.toList
theorem srLeq_no {a b : ByteArray} (h : srLess b a) : (Op.bytesLess a.toList b.toList || a.toList == b.toList) = false := by
  rw [bytesLess_eq, Lib.toList_data, Lib.toList_data, Bool.or_eq_false_iff]
  refine ⟨decide_eq_false fun k => List.lt_irrefl _ (List.lt_trans h k), ?_⟩
  rw [beq_eq_false_iff_ne]
  intro e
  unfold srLess at h
  rw [e] at h
  exact List.lt_irrefl _ h
theorem srLeq_yes {a b : ByteArray} (h : ¬ srLess b a) : (Op.bytesLess a.toList b.toList || a.toList == b.toList) = true := by
  rw [bytesLess_eq, Lib.toList_data, Lib.toList_data, Bool.or_eq_true]
  by_cases k : a.data.toList < b.data.toList
  · exact .inl (decide_eq_true k)
  · exact .inr (beq_iff_eq.2 (List.le_antisymm h k))

/-- each a name and a text that is not too long, the names ascending; not too many -/
def SrcRight (es : List Src) : Prop := (∀ j (h : j < es.length), Lx.nameOkP es[j].1 = true ∧ es[j].2.size ≤ 50000 ∧ ∀ _ : 0 < j, srLess (es[j - 1]'(by omega)).1 es[j].1) ∧ es.length ≤ 20

set_option maxHeartbeats 1600000 in
set_option maxRecDepth 100000 in
open Classical in
theorem specSetOk (v : Value) (es : List Src) (w : World) (hrow : SrcAt w v es) (hb : srsBulk es ≤ 1048576) :
    Calls Tryd.prog 6 #[v] w fun e w' => e = .returned (.bool (decide (SrcRight es))) ∧ Below w.heap.size w w' := by
  obtain ⟨av, capv, rfl, hel⟩ := srcOpen hrow
  have hlen : es.length ≤ 1048576 := by unfold srsBulk at hb; omega
  obtain ⟨RR, hRR⟩ : ∃ RR, RR = decide (SrcRight es) := ⟨_, rfl⟩
  rw [← hRR]
  have HNO : Hid (¬ SrcRight es → RR = false) := fun h => by rw [hRR]; exact decide_eq_false h
  have HYES : Hid (SrcRight es → RR = true) := fun h => by rw [hRR]; exact decide_eq_true h
  have HEL : Hid (type_of% hel) := hel
  have HB : Hid (type_of% hb) := hb
  clear hRR hel hrow hb
  go_enter Tryd.func6, Tryd.ntmps6
  go_wp2_with fail
  go_loopw [3] (fun i wr => ∃ k : Nat, k ≤ es.length ∧ i = .int .i64 k ∧ (∀ j (h : j < es.length), j < k → Lx.nameOkP es[j].1 = true ∧ es[j].2.size ≤ 50000 ∧ ∀ _ : 0 < j, srLess (es[j - 1]'(by omega)).1 es[j].1) ∧ Below w.heap.size w wr) (fun i _ => es.length - (intOf i).toNat)
  case atStart => exact ⟨0, Nat.zero_le _, rfl, fun j _ h => absurd h (by omega), Below.refl _ _⟩
  case round =>
    obtain ⟨k, hk, rfl, hall, hbe⟩ := hrel
    have HALL : Hid (type_of% hall) := hall
    clear hall
    by_cases hlt : k < es.length
    · obtain ⟨b, off, rfl, hbl, q0, q1⟩ := HEL.out k hlt
      have c0 := (hbe.cell (p := ⟨b, off + k * 2, none⟩) hbl).trans q0
      have c1 := (hbe.cell (p := ⟨b, off + k * 2 + 1, none⟩) hbl).trans q1
      have r0 : ∀ d os, (grow (redrawn wr d) os).cell? ⟨b, off + k * 2, none⟩ = _ := fun d os => cell_regrown c0 d os
      have r1 : ∀ d os, (grow (redrawn wr d) os).cell? ⟨b, off + k * 2 + 1, none⟩ = _ := fun d os => cell_regrown c1 d os
      have hbk := sr_bulk es k hlt
      have hB := HB.out
      have HND : Hid (∀ wx : World, Calls Tryd.prog 10 #[.string es[k].1] wx fun e w' => e = .returned (.bool (Lx.nameOkP es[k].1)) ∧ Below wx.heap.size wx w') := fun wx => specNameOk _ wx (by omega)
      have hk0i : (0 : Int) ≤ (k : Int) := by omega
      have hk1i : (k : Int) < (es.length : Int) := by omega
      have hts : es[k].2.size ≤ 1048576 := by omega
      clear q0 q1 hbk hB
      cases hd : Lx.nameOkP es[k].1 with
      | false =>
        have HR : Hid (RR = false) := HNO.out fun h => by
          have := (h.1 k hlt).1
          rw [hd] at this
          cases this
        rw [hd] at HND
        clear hd HNO HYES HALL HEL HB
        generalize es[k].1 = x at *
        generalize es[k].2 = y at *
        go_wp2_with fail
        refine wp_region_quiet_below (by kernel_rfl) (by kernel_rfl) ?_
        repeat (go_big_quiet_step (exact Calls.regrown_of (HND.out _)))
        refine wpQuiet_nil ?_
        intro _ hw'
        obtain ⟨⟨dq, osq⟩, hw''⟩ := hw'
        subst hw''
        have D2 := hbe.trans ((below_regrown wr dq osq).mono hbe.size)
        clear r0 r1
        generalize grow (redrawn wr dq) osq = w2 at *
        go_wp2_with fail
        go_ret
        exact ⟨by rw [HR.out]; rfl, D2⟩
      | true =>
        rw [hd] at HND
        by_cases hr : es[k].2.size ≤ 50000
        · by_cases hk0 : k = 0
          · have HA2 : Hid (∀ j (h : j < es.length), j < k + 1 → Lx.nameOkP es[j].1 = true ∧ es[j].2.size ≤ 50000 ∧ ∀ _ : 0 < j, srLess (es[j - 1]'(by omega)).1 es[j].1) := fun j hj hjk => by
              have e : j = k := by omega
              subst e
              exact ⟨hd, hr, fun h0 => absurd h0 (by omega)⟩
            have hkp : decide ((0 : Int) < (k : Int)) = false := decide_eq_false (by omega)
            have hkn : decide (0 < k) = false := decide_eq_false (by omega)
            have hsp : decide ((50000 : Int) < (es[k].2.size : Int)) = false := decide_eq_false (by omega)
            have hsn : decide (50000 < es[k].2.size) = false := decide_eq_false (by omega)
            clear hd hr hk0 HNO HYES HALL HEL HB
            generalize es[k].1 = x at *
            generalize es[k].2 = y at *
            go_wp2_with fail
            refine wp_region_quiet_below (by kernel_rfl) (by kernel_rfl) ?_
            repeat (go_big_quiet_step (exact Calls.regrown_of (HND.out _)))
            refine wpQuiet_nil ?_
            intro _ hw'
            obtain ⟨⟨dq, osq⟩, hw''⟩ := hw'
            subst hw''
            have D2 := hbe.trans ((below_regrown wr dq osq).mono hbe.size)
            clear r0 r1
            generalize grow (redrawn wr dq) osq = w2 at *
            go_wp2_with fail
            go_roundw
            case rel => exact ⟨k + 1, by omega, by go_num, HA2.out, D2⟩
            case measure => simp [intOf]; omega
          · obtain ⟨m, rfl⟩ : ∃ m, k = m + 1 := ⟨k - 1, by omega⟩
            have hlm : m < es.length := by omega
            obtain ⟨b', off', e', _, p0, _⟩ := HEL.out m hlm
            simp only [Option.some.injEq, Addr.mk.injEq, and_true] at e'
            obtain ⟨rfl, rfl⟩ := e'
            have P0 := (hbe.cell (p := ⟨b, off + m * 2, none⟩) hbl).trans p0
            have rP : ∀ d os, (grow (redrawn wr d) os).cell? ⟨b, off + m * 2, none⟩ = _ := fun d os => cell_regrown P0 d os
            have hm0 : (0 : Int) ≤ (m : Int) := by omega
            have hm1 : (m : Int) < (es.length : Int) := by omega
            have hkp : (0 : Int) < (m : Int) + 1 := by omega
            have hsp : decide ((50000 : Int) < (es[m + 1].2.size : Int)) = false := decide_eq_false (by omega)
            have hsn : decide (50000 < es[m + 1].2.size) = false := decide_eq_false (by omega)
            by_cases hls : srLess es[m].1 es[m + 1].1
            · have HA2 : Hid (∀ j (h : j < es.length), j < m + 1 + 1 → Lx.nameOkP es[j].1 = true ∧ es[j].2.size ≤ 50000 ∧ ∀ _ : 0 < j, srLess (es[j - 1]'(by omega)).1 es[j].1) := fun j hj hjk => by
                by_cases c : j = m + 1
                · subst c
                  exact ⟨hd, hr, fun h0 => hls⟩
                · exact HALL.out j hj (by omega)
              have hcmp := srLeq_no hls
              clear hd hr hk0 hls HNO HYES HALL HEL HB p0
              generalize es[m + 1].1 = x at *
              generalize es[m + 1].2 = z at *
              generalize es[m].1 = y at *
              go_wp2_with fail
              refine wp_region_quiet_below (by kernel_rfl) (by kernel_rfl) ?_
              repeat (go_big_quiet_step (exact Calls.regrown_of (HND.out _)))
              refine wpQuiet_nil ?_
              intro _ hw'
              obtain ⟨⟨dq, osq⟩, hw''⟩ := hw'
              subst hw''
              have D2 := hbe.trans ((below_regrown wr dq osq).mono hbe.size)
              clear r0 r1 rP
              generalize grow (redrawn wr dq) osq = w2 at *
              go_wp2_with fail
              go_roundw
              case rel => exact ⟨m + 1 + 1, by omega, by go_num, HA2.out, D2⟩
              case measure => simp [intOf]; omega
            · have HR : Hid (RR = false) := HNO.out fun h => hls ((h.1 (m + 1) hlt).2.2 (by omega))
              have hcmp := srLeq_yes hls
              clear hd hr hk0 hls HNO HYES HALL HEL HB p0
              generalize es[m + 1].1 = x at *
              generalize es[m + 1].2 = z at *
              generalize es[m].1 = y at *
              go_wp2_with fail
              refine wp_region_quiet_below (by kernel_rfl) (by kernel_rfl) ?_
              repeat (go_big_quiet_step (exact Calls.regrown_of (HND.out _)))
              refine wpQuiet_nil ?_
              intro _ hw'
              obtain ⟨⟨dq, osq⟩, hw''⟩ := hw'
              subst hw''
              have D2 := hbe.trans ((below_regrown wr dq osq).mono hbe.size)
              clear r0 r1 rP
              generalize grow (redrawn wr dq) osq = w2 at *
              go_wp2_with fail
              go_ret
              exact ⟨by rw [HR.out]; rfl, D2⟩
        · have HR : Hid (RR = false) := HNO.out fun h => hr (h.1 k hlt).2.1
          have hsp : (50000 : Int) < (es[k].2.size : Int) := by omega
          clear hd hr HNO HYES HALL HEL HB
          generalize es[k].1 = x at *
          generalize es[k].2 = y at *
          go_wp2_with fail
          refine wp_region_quiet_below (by kernel_rfl) (by kernel_rfl) ?_
          repeat (go_big_quiet_step (exact Calls.regrown_of (HND.out _)))
          refine wpQuiet_nil ?_
          intro _ hw'
          obtain ⟨⟨dq, osq⟩, hw''⟩ := hw'
          subst hw''
          have D2 := hbe.trans ((below_regrown wr dq osq).mono hbe.size)
          clear r0 r1
          generalize grow (redrawn wr dq) osq = w2 at *
          go_wp2_with fail
          go_ret
          exact ⟨by rw [HR.out]; rfl, D2⟩
    · have hke : k = es.length := by omega
      have HR : Hid (decide ((es.length : Int) ≤ 20) = RR) := by
        show _ = _
        by_cases h20 : es.length ≤ 20
        · rw [decide_eq_true (by omega), HYES.out ⟨fun j h => HALL.out j h (by omega), h20⟩]
        · rw [decide_eq_false (by omega), HNO.out fun h => h20 h.2]
      clear HNO HYES HALL HEL HB
      go_wp2_with fail
      go_ret
      exact ⟨by rw [← HR.out]; rfl, hbe⟩

end Go.Proofs.YtcaombibbbaplaaDoor

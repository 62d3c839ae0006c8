/-
  What an environment is; the walk of spec.EnvOk.
-/
import Derived.Test.YtmbjknholcmpmaaGreatDoorTab4
import Derived.Test.YtmbjknholcmpmaaGreatDoorRightV
import Derived.Lib.QuietBelow
import Derived.BigQuiet
namespace Go.Proofs.YtmbjknholcmpmaaGreatDoor
open Go.RowKit
open Go.Sort (grow)

/-- so many names, right and ascending, and right types -/
def EnvRight (n : Nat) (es : List (ByteArray × Ty)) : Prop := (∀ j (h : j < es.length), dottedP es[j].1 = true ∧ Right n es[j].2 12 ∧ ∀ _ : 0 < j, lessB (es[j - 1]'(by omega)).1 es[j].1) ∧ es.length ≤ 60

set_option maxHeartbeats 1600000 in
set_option maxRecDepth 100000 in
open Classical in
theorem specEnvOk (n : Nat) (v : Value) (es : List (ByteArray × Ty)) (w : World) (hrow : EnvAt w n v es) (hb : envBulk n es ≤ 1048576) :
    Calls Tryz.prog 14 #[v] w fun e w' => e = .returned (.bool (decide (EnvRight n es))) ∧ Below w.heap.size w w' := by
  obtain ⟨av, capv, rfl, hel⟩ := envOpen hrow
  have hlen : es.length ≤ 1048576 := by unfold envBulk at hb; omega
  obtain ⟨RR, hRR⟩ : ∃ RR, RR = decide (EnvRight n es) := ⟨_, rfl⟩
  rw [← hRR]
  have HNO : Hid (¬ EnvRight n es → RR = false) := fun h => by rw [hRR]; exact decide_eq_false h
  have HYES : Hid (EnvRight n es → RR = true) := fun h => by rw [hRR]; exact decide_eq_true h
  have HEL : Hid (type_of% hel) := hel
  have HB : Hid (type_of% hb) := hb
  clear hRR hel hrow hb
  go_enter Tryz.func14, Tryz.ntmps14
  go_wp2_with fail
  go_loopw [3] (fun i wr => ∃ k : Nat, k ≤ es.length ∧ i = .int .i64 k ∧ (∀ j (h : j < es.length), j < k → dottedP es[j].1 = true ∧ Right n es[j].2 12 ∧ ∀ _ : 0 < j, lessB (es[j - 1]'(by omega)).1 es[j].1) ∧ Below w.heap.size w wr) (fun i _ => es.length - (intOf i).toNat)
  case atStart => exact ⟨0, Nat.zero_le _, rfl, fun j _ h => absurd h (by omega), Below.refl _ _⟩
  case round =>
    obtain ⟨k, hk, rfl, hall, hbe⟩ := hrel
    have HALL : Hid (type_of% hall) := hall
    clear hall
    by_cases hlt : k < es.length
    · obtain ⟨b, off, x0, x1, x2, x3, rfl, hbl, hsz, hty, q0, q1, q2, q3, q4⟩ := HEL.out k hlt
      have c0 := (hbe.cell (p := ⟨b, off + k * 5, none⟩) hbl).trans q0
      have c1 := (hbe.cell (p := ⟨b, off + k * 5 + 1, none⟩) hbl).trans q1
      have c2 := (hbe.cell (p := ⟨b, off + k * 5 + 2, none⟩) hbl).trans q2
      have c3 := (hbe.cell (p := ⟨b, off + k * 5 + 3, none⟩) hbl).trans q3
      have c4 := (hbe.cell (p := ⟨b, off + k * 5 + 4, none⟩) hbl).trans q4
      have r0 : ∀ d os, (grow (redrawn wr d) os).cell? ⟨b, off + k * 5, none⟩ = _ := fun d os => cell_regrown c0 d os
      have r1 : ∀ d os, (grow (redrawn wr d) os).cell? ⟨b, off + k * 5 + 1, none⟩ = _ := fun d os => cell_regrown c1 d os
      have r2 : ∀ d os, (grow (redrawn wr d) os).cell? ⟨b, off + k * 5 + 2, none⟩ = _ := fun d os => cell_regrown c2 d os
      have r3 : ∀ d os, (grow (redrawn wr d) os).cell? ⟨b, off + k * 5 + 3, none⟩ = _ := fun d os => cell_regrown c3 d os
      have r4 : ∀ d os, (grow (redrawn wr d) os).cell? ⟨b, off + k * 5 + 4, none⟩ = _ := fun d os => cell_regrown c4 d os
      have hbk := env_bulk n es k hlt
      have hB := HB.out
      have HND : Hid (∀ wx : World, Calls Tryz.prog 34 #[.string es[k].1] wx fun e w' => e = .returned (.bool (dottedP es[k].1)) ∧ Below wx.heap.size wx w') := fun wx => specDotted _ wx (by omega)
      have HTO : Hid (∀ d os, Calls Tryz.prog 35 #[.agg #[x0, x1, x2, x3]] (grow (redrawn wr d) os) fun e w' => e = .returned (.bool (decide (Right n es[k].2 12))) ∧ Below (grow (redrawn wr d) os).heap.size (grow (redrawn wr d) os) w') := fun d os => specTypeOk n _ _ _ ((hty.below hbe).below (below_regrown wr d os)) (by omega)
      have hk0i : (0 : Int) ≤ (k : Int) := by omega
      have hk1i : (k : Int) < (es.length : Int) := by omega
      clear q0 q1 q2 q3 q4 hty hsz hbk hB
      cases hd : dottedP es[k].1 with
      | false =>
        have HR : Hid (RR = false) := HNO.out fun h => by
          have := (h.1 k hlt).1
          rw [hd] at this
          cases this
        rw [hd] at HND
        clear hd HNO HYES HALL HEL HB HTO
        generalize es[k].1 = x at *
        go_wp2_with fail
        refine wp_region_quiet_below (by kernel_rfl) (by kernel_rfl) ?_
        repeat (go_big_quiet_step (exact Calls.regrown_of (HND.out _)))
        refine wpQuiet_nil ?_
        intro _ hw'
        obtain ⟨⟨dq, osq⟩, hw''⟩ := hw'
        subst hw''
        have D2 := hbe.trans ((below_regrown wr dq osq).mono hbe.size)
        clear r0 r1 r2 r3 r4
        generalize grow (redrawn wr dq) osq = w2 at *
        go_wp2_with fail
        go_ret
        exact ⟨by rw [HR.out]; rfl, D2⟩
      | true =>
        rw [hd] at HND
        by_cases hr : Right n es[k].2 12
        · rw [decide_eq_true hr] at HTO
          by_cases hk0 : k = 0
          · have HA2 : Hid (∀ j (h : j < es.length), j < k + 1 → dottedP es[j].1 = true ∧ Right n es[j].2 12 ∧ ∀ _ : 0 < j, lessB (es[j - 1]'(by omega)).1 es[j].1) := fun j hj hjk => by
              have e : j = k := by omega
              subst e
              exact ⟨hd, hr, fun h0 => absurd h0 (by omega)⟩
            have hkp : decide ((0 : Int) < (k : Int)) = false := decide_eq_false (by omega)
            have hkn : decide (0 < k) = false := decide_eq_false (by omega)
            clear hd hr hk0 HNO HYES HALL HEL HB
            generalize es[k].1 = x at *
            go_wp2_with fail
            refine wp_region_quiet_below (by kernel_rfl) (by kernel_rfl) ?_
            repeat (go_big_quiet_step (first | exact Calls.regrown_of (HND.out _) | exact Calls.regrown_of (HTO.out _ _)))
            refine wpQuiet_nil ?_
            intro _ hw'
            obtain ⟨⟨dq, osq⟩, hw''⟩ := hw'
            subst hw''
            have D2 := hbe.trans ((below_regrown wr dq osq).mono hbe.size)
            clear r0 r1 r2 r3 r4 HTO
            generalize grow (redrawn wr dq) osq = w2 at *
            go_wp2_with fail
            go_roundw
            case rel => exact ⟨k + 1, by omega, by go_num, HA2.out, D2⟩
            case measure => simp [intOf]; omega
          · obtain ⟨m, rfl⟩ : ∃ m, k = m + 1 := ⟨k - 1, by omega⟩
            have hlm : m < es.length := by omega
            obtain ⟨b', off', _, _, _, _, e', _, _, _, p0, _, _, _, _⟩ := HEL.out m hlm
            simp only [Option.some.injEq, Addr.mk.injEq, and_true] at e'
            obtain ⟨rfl, rfl⟩ := e'
            have P0 := (hbe.cell (p := ⟨b, off + m * 5, none⟩) hbl).trans p0
            have rP : ∀ d os, (grow (redrawn wr d) os).cell? ⟨b, off + m * 5, none⟩ = _ := fun d os => cell_regrown P0 d os
            have hm0 : (0 : Int) ≤ (m : Int) := by omega
            have hm1 : (m : Int) < (es.length : Int) := by omega
            have hkp : (0 : Int) < (m : Int) + 1 := by omega
            by_cases hls : lessB es[m].1 es[m + 1].1
            · have HA2 : Hid (∀ j (h : j < es.length), j < m + 1 + 1 → dottedP es[j].1 = true ∧ Right n es[j].2 12 ∧ ∀ _ : 0 < j, lessB (es[j - 1]'(by omega)).1 es[j].1) := fun j hj hjk => by
                by_cases c : j = m + 1
                · subst c
                  exact ⟨hd, hr, fun h0 => hls⟩
                · exact HALL.out j hj (by omega)
              have hcmp := leq_no hls
              clear hd hr hk0 hls HNO HYES HALL HEL HB p0
              generalize es[m + 1].1 = x at *
              generalize es[m].1 = y at *
              go_wp2_with fail
              refine wp_region_quiet_below (by kernel_rfl) (by kernel_rfl) ?_
              repeat (go_big_quiet_step (first | exact Calls.regrown_of (HND.out _) | exact Calls.regrown_of (HTO.out _ _)))
              refine wpQuiet_nil ?_
              intro _ hw'
              obtain ⟨⟨dq, osq⟩, hw''⟩ := hw'
              subst hw''
              have D2 := hbe.trans ((below_regrown wr dq osq).mono hbe.size)
              clear r0 r1 r2 r3 r4 rP HTO
              generalize grow (redrawn wr dq) osq = w2 at *
              go_wp2_with fail
              go_roundw
              case rel => exact ⟨m + 1 + 1, by omega, by go_num, HA2.out, D2⟩
              case measure => simp [intOf]; omega
            · have HR : Hid (RR = false) := HNO.out fun h => hls ((h.1 (m + 1) hlt).2.2 (by omega))
              have hcmp := leq_yes hls
              clear hd hr hk0 hls HNO HYES HALL HEL HB p0
              generalize es[m + 1].1 = x at *
              generalize es[m].1 = y at *
              go_wp2_with fail
              refine wp_region_quiet_below (by kernel_rfl) (by kernel_rfl) ?_
              repeat (go_big_quiet_step (first | exact Calls.regrown_of (HND.out _) | exact Calls.regrown_of (HTO.out _ _)))
              refine wpQuiet_nil ?_
              intro _ hw'
              obtain ⟨⟨dq, osq⟩, hw''⟩ := hw'
              subst hw''
              have D2 := hbe.trans ((below_regrown wr dq osq).mono hbe.size)
              clear r0 r1 r2 r3 r4 rP HTO
              generalize grow (redrawn wr dq) osq = w2 at *
              go_wp2_with fail
              go_ret
              exact ⟨by rw [HR.out]; rfl, D2⟩
        · rw [decide_eq_false hr] at HTO
          have HR : Hid (RR = false) := HNO.out fun h => hr (h.1 k hlt).2.1
          clear hd hr HNO HYES HALL HEL HB
          generalize es[k].1 = x at *
          go_wp2_with fail
          refine wp_region_quiet_below (by kernel_rfl) (by kernel_rfl) ?_
          repeat (go_big_quiet_step (first | exact Calls.regrown_of (HND.out _) | exact Calls.regrown_of (HTO.out _ _)))
          refine wpQuiet_nil ?_
          intro _ hw'
          obtain ⟨⟨dq, osq⟩, hw''⟩ := hw'
          subst hw''
          have D2 := hbe.trans ((below_regrown wr dq osq).mono hbe.size)
          clear r0 r1 r2 r3 r4 HTO
          generalize grow (redrawn wr dq) osq = w2 at *
          go_wp2_with fail
          go_ret
          exact ⟨by rw [HR.out]; rfl, D2⟩
    · by_cases h60 : es.length ≤ 60
      · have HR : Hid (RR = true) := HYES.out ⟨fun j h => HALL.out j h (by omega), h60⟩
        have h60i : (es.length : Int) ≤ 60 := by omega
        clear HNO HYES HALL HEL HB
        go_wp2_with fail
        go_ret
        exact ⟨by rw [HR.out]; rfl, hbe⟩
      · have HR : Hid (RR = false) := HNO.out fun h => h60 h.2
        have h60i : ¬ (es.length : Int) ≤ 60 := by omega
        clear HNO HYES HALL HEL HB
        go_wp2_with fail
        go_ret
        exact ⟨by rw [HR.out]; rfl, hbe⟩

end Go.Proofs.YtmbjknholcmpmaaGreatDoor

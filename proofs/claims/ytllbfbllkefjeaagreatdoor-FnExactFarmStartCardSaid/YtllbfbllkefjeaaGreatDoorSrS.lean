/-
  When sources are a set of modules; the walk of spec.SetOk.
  The walks of impl.ascends, impl.sourceNames and impl.SetOk.
-/
import Derived.Test.YtllbfbllkefjeaaGreatDoorSrD
import Derived.Test.YtllbfbllkefjeaaGreatDoorNameW
import Derived.Test.YtllbfbllkefjeaaGreatDoorCloneLib
namespace Go.Proofs.YtllbfbllkefjeaaGreatDoor
open Go.RowKit
open Go.Sort (grow)

def srLess (a b : ByteArray) : Prop := a.data.toList < b.data.toList
theorem srLeq_no {a b : ByteArray} (h : srLess b a) : (Op.bytesLess a.toList b.toList || a.toList == b.toList) = false := by
  rw [bytesLess_eq, Lib.toList_data, Lib.toList_data, Bool.or_eq_false_iff]
  refine ⟨decide_eq_false fun k => List.lt_irrefl _ (List.lt_trans h k), ?_⟩
  rw [beq_eq_false_iff_ne]
  intro e
  unfold srLess at h
  rw [e] at h
  exact List.lt_irrefl _ h
theorem srLeq_yes {a b : ByteArray} (h : ¬ srLess b a) : (Op.bytesLess a.toList b.toList || a.toList == b.toList) = true := by
  rw [bytesLess_eq, Lib.toList_data, Lib.toList_data, Bool.or_eq_true]
  by_cases k : a.data.toList < b.data.toList
  · exact .inl (decide_eq_true k)
  · exact .inr (beq_iff_eq.2 (List.le_antisymm h k))

/-- each a name and a text that is not too long, the names ascending; not too many -/
def SrcRight (es : List Src) : Prop := (∀ j (h : j < es.length), Lx.nameOkP es[j].1 = true ∧ es[j].2.size ≤ 50000 ∧ ∀ _ : 0 < j, srLess (es[j - 1]'(by omega)).1 es[j].1) ∧ es.length ≤ 20

set_option maxHeartbeats 1600000 in
set_option maxRecDepth 100000 in
open Classical in
theorem specSetOk (v : Value) (es : List Src) (w : World) (hrow : SrcAt w v es) (hb : srsBulk es ≤ 1048576) :
    Calls Tryz.prog 19 #[v] w fun e w' => e = .returned (.bool (decide (SrcRight es))) ∧ Below w.heap.size w w' := by
  obtain ⟨av, capv, rfl, hel⟩ := srcOpen hrow
  have hlen : es.length ≤ 1048576 := by unfold srsBulk at hb; omega
  obtain ⟨RR, hRR⟩ : ∃ RR, RR = decide (SrcRight es) := ⟨_, rfl⟩
  rw [← hRR]
  have HNO : Hid (¬ SrcRight es → RR = false) := fun h => by rw [hRR]; exact decide_eq_false h
  have HYES : Hid (SrcRight es → RR = true) := fun h => by rw [hRR]; exact decide_eq_true h
  have HEL : Hid (type_of% hel) := hel
  have HB : Hid (type_of% hb) := hb
  clear hRR hel hrow hb
  go_enter Tryz.func19, Tryz.ntmps19
  go_wp2_with fail
  go_loopw [3] (fun i wr => ∃ k : Nat, k ≤ es.length ∧ i = .int .i64 k ∧ (∀ j (h : j < es.length), j < k → Lx.nameOkP es[j].1 = true ∧ es[j].2.size ≤ 50000 ∧ ∀ _ : 0 < j, srLess (es[j - 1]'(by omega)).1 es[j].1) ∧ Below w.heap.size w wr) (fun i _ => es.length - (intOf i).toNat)
  case atStart => exact ⟨0, Nat.zero_le _, rfl, fun j _ h => absurd h (by omega), Below.refl _ _⟩
  case round =>
    obtain ⟨k, hk, rfl, hall, hbe⟩ := hrel
    have HALL : Hid (type_of% hall) := hall
    clear hall
    by_cases hlt : k < es.length
    · obtain ⟨b, off, rfl, hbl, q0, q1⟩ := HEL.out k hlt
      have c0 := (hbe.cell (p := ⟨b, off + k * 2, none⟩) hbl).trans q0
      have c1 := (hbe.cell (p := ⟨b, off + k * 2 + 1, none⟩) hbl).trans q1
      have r0 : ∀ d os, (grow (redrawn wr d) os).cell? ⟨b, off + k * 2, none⟩ = _ := fun d os => cell_regrown c0 d os
      have r1 : ∀ d os, (grow (redrawn wr d) os).cell? ⟨b, off + k * 2 + 1, none⟩ = _ := fun d os => cell_regrown c1 d os
      have hbk := sr_bulk es k hlt
      have hB := HB.out
      have HND : Hid (∀ wx : World, Calls Tryz.prog 47 #[.string es[k].1] wx fun e w' => e = .returned (.bool (Lx.nameOkP es[k].1)) ∧ Below wx.heap.size wx w') := fun wx => specNameOk _ wx (by omega)
      have hk0i : (0 : Int) ≤ (k : Int) := by omega
      have hk1i : (k : Int) < (es.length : Int) := by omega
      have hts : es[k].2.size ≤ 1048576 := by omega
      clear q0 q1 hbk hB
      cases hd : Lx.nameOkP es[k].1 with
      | false =>
        have HR : Hid (RR = false) := HNO.out fun h => by
          have := (h.1 k hlt).1
          rw [hd] at this
          cases this
        rw [hd] at HND
        clear hd HNO HYES HALL HEL HB
        generalize es[k].1 = x at *
        generalize es[k].2 = y at *
        go_wp2_with fail
        refine wp_region_quiet_below (by kernel_rfl) (by kernel_rfl) ?_
        repeat (go_big_quiet_step (exact Calls.regrown_of (HND.out _)))
        refine wpQuiet_nil ?_
        intro _ hw'
        obtain ⟨⟨dq, osq⟩, hw''⟩ := hw'
        subst hw''
        have D2 := hbe.trans ((below_regrown wr dq osq).mono hbe.size)
        clear r0 r1
        generalize grow (redrawn wr dq) osq = w2 at *
        go_wp2_with fail
        go_ret
        exact ⟨by rw [HR.out]; rfl, D2⟩
      | true =>
        rw [hd] at HND
        by_cases hr : es[k].2.size ≤ 50000
        · by_cases hk0 : k = 0
          · have HA2 : Hid (∀ j (h : j < es.length), j < k + 1 → Lx.nameOkP es[j].1 = true ∧ es[j].2.size ≤ 50000 ∧ ∀ _ : 0 < j, srLess (es[j - 1]'(by omega)).1 es[j].1) := fun j hj hjk => by
              have e : j = k := by omega
              subst e
              exact ⟨hd, hr, fun h0 => absurd h0 (by omega)⟩
            have hkp : decide ((0 : Int) < (k : Int)) = false := decide_eq_false (by omega)
            have hkn : decide (0 < k) = false := decide_eq_false (by omega)
            have hsp : decide ((50000 : Int) < (es[k].2.size : Int)) = false := decide_eq_false (by omega)
            have hsn : decide (50000 < es[k].2.size) = false := decide_eq_false (by omega)
            clear hd hr hk0 HNO HYES HALL HEL HB
            generalize es[k].1 = x at *
            generalize es[k].2 = y at *
            go_wp2_with fail
            refine wp_region_quiet_below (by kernel_rfl) (by kernel_rfl) ?_
            repeat (go_big_quiet_step (exact Calls.regrown_of (HND.out _)))
            refine wpQuiet_nil ?_
            intro _ hw'
            obtain ⟨⟨dq, osq⟩, hw''⟩ := hw'
            subst hw''
            have D2 := hbe.trans ((below_regrown wr dq osq).mono hbe.size)
            clear r0 r1
            generalize grow (redrawn wr dq) osq = w2 at *
            go_wp2_with fail
            go_roundw
            case rel => exact ⟨k + 1, by omega, by go_num, HA2.out, D2⟩
            case measure => simp [intOf]; omega
          · obtain ⟨m, rfl⟩ : ∃ m, k = m + 1 := ⟨k - 1, by omega⟩
            have hlm : m < es.length := by omega
            obtain ⟨b', off', e', _, p0, _⟩ := HEL.out m hlm
            simp only [Option.some.injEq, Addr.mk.injEq, and_true] at e'
            obtain ⟨rfl, rfl⟩ := e'
            have P0 := (hbe.cell (p := ⟨b, off + m * 2, none⟩) hbl).trans p0
            have rP : ∀ d os, (grow (redrawn wr d) os).cell? ⟨b, off + m * 2, none⟩ = _ := fun d os => cell_regrown P0 d os
            have hm0 : (0 : Int) ≤ (m : Int) := by omega
            have hm1 : (m : Int) < (es.length : Int) := by omega
            have hkp : (0 : Int) < (m : Int) + 1 := by omega
            have hsp : decide ((50000 : Int) < (es[m + 1].2.size : Int)) = false := decide_eq_false (by omega)
            have hsn : decide (50000 < es[m + 1].2.size) = false := decide_eq_false (by omega)
            by_cases hls : srLess es[m].1 es[m + 1].1
            · have HA2 : Hid (∀ j (h : j < es.length), j < m + 1 + 1 → Lx.nameOkP es[j].1 = true ∧ es[j].2.size ≤ 50000 ∧ ∀ _ : 0 < j, srLess (es[j - 1]'(by omega)).1 es[j].1) := fun j hj hjk => by
                by_cases c : j = m + 1
                · subst c
                  exact ⟨hd, hr, fun h0 => hls⟩
                · exact HALL.out j hj (by omega)
              have hcmp := srLeq_no hls
              clear hd hr hk0 hls HNO HYES HALL HEL HB p0
              generalize es[m + 1].1 = x at *
              generalize es[m + 1].2 = z at *
              generalize es[m].1 = y at *
              go_wp2_with fail
              refine wp_region_quiet_below (by kernel_rfl) (by kernel_rfl) ?_
              repeat (go_big_quiet_step (exact Calls.regrown_of (HND.out _)))
              refine wpQuiet_nil ?_
              intro _ hw'
              obtain ⟨⟨dq, osq⟩, hw''⟩ := hw'
              subst hw''
              have D2 := hbe.trans ((below_regrown wr dq osq).mono hbe.size)
              clear r0 r1 rP
              generalize grow (redrawn wr dq) osq = w2 at *
              go_wp2_with fail
              go_roundw
              case rel => exact ⟨m + 1 + 1, by omega, by go_num, HA2.out, D2⟩
              case measure => simp [intOf]; omega
            · have HR : Hid (RR = false) := HNO.out fun h => hls ((h.1 (m + 1) hlt).2.2 (by omega))
              have hcmp := srLeq_yes hls
              clear hd hr hk0 hls HNO HYES HALL HEL HB p0
              generalize es[m + 1].1 = x at *
              generalize es[m + 1].2 = z at *
              generalize es[m].1 = y at *
              go_wp2_with fail
              refine wp_region_quiet_below (by kernel_rfl) (by kernel_rfl) ?_
              repeat (go_big_quiet_step (exact Calls.regrown_of (HND.out _)))
              refine wpQuiet_nil ?_
              intro _ hw'
              obtain ⟨⟨dq, osq⟩, hw''⟩ := hw'
              subst hw''
              have D2 := hbe.trans ((below_regrown wr dq osq).mono hbe.size)
              clear r0 r1 rP
              generalize grow (redrawn wr dq) osq = w2 at *
              go_wp2_with fail
              go_ret
              exact ⟨by rw [HR.out]; rfl, D2⟩
        · have HR : Hid (RR = false) := HNO.out fun h => hr (h.1 k hlt).2.1
          have hsp : (50000 : Int) < (es[k].2.size : Int) := by omega
          clear hd hr HNO HYES HALL HEL HB
          generalize es[k].1 = x at *
          generalize es[k].2 = y at *
          go_wp2_with fail
          refine wp_region_quiet_below (by kernel_rfl) (by kernel_rfl) ?_
          repeat (go_big_quiet_step (exact Calls.regrown_of (HND.out _)))
          refine wpQuiet_nil ?_
          intro _ hw'
          obtain ⟨⟨dq, osq⟩, hw''⟩ := hw'
          subst hw''
          have D2 := hbe.trans ((below_regrown wr dq osq).mono hbe.size)
          clear r0 r1
          generalize grow (redrawn wr dq) osq = w2 at *
          go_wp2_with fail
          go_ret
          exact ⟨by rw [HR.out]; rfl, D2⟩
    · have hke : k = es.length := by omega
      have HR : Hid (decide ((es.length : Int) ≤ 20) = RR) := by
        show _ = _
        by_cases h20 : es.length ≤ 20
        · rw [decide_eq_true (by omega), HYES.out ⟨fun j h => HALL.out j h (by omega), h20⟩]
        · rw [decide_eq_false (by omega), HNO.out fun h => h20 h.2]
      clear HNO HYES HALL HEL HB
      go_wp2_with fail
      go_ret
      exact ⟨by rw [← HR.out]; rfl, hbe⟩

end Go.Proofs.YtllbfbllkefjeaaGreatDoor

namespace Go.Proofs.YtllbfbllkefjeaaGreatDoor
open Go.RowKit

/-- each is less than the next -/
def SrAscend (ts : List ByteArray) : Prop := ∀ i (h : i < ts.length), ∀ _ : 0 < i, srLess (ts[i - 1]'(by omega)) ts[i]

theorem srLess_yes {a b : ByteArray} (h : srLess a b) : Op.bytesLess a.toList b.toList = true := by
  rw [bytesLess_eq, Lib.toList_data, Lib.toList_data]; exact decide_eq_true h
theorem srLess_no {a b : ByteArray} (h : ¬ srLess a b) : Op.bytesLess a.toList b.toList = false := by
  rw [bytesLess_eq, Lib.toList_data, Lib.toList_data]; exact decide_eq_false h

set_option maxHeartbeats 800000 in
set_option maxRecDepth 100000 in
open Classical in
theorem srAscends (v : Value) (ts : List ByteArray) (w : World) (hT : Texts w v ts) (hl : ts.length ≤ 1048577) :
    Calls Tryz.prog 74 #[v] w fun e w' => e = .returned (.bool (decide (SrAscend ts))) ∧ Below w.heap.size w w' := by
  obtain ⟨a, cap, rfl, hc⟩ : ∃ a cap, v = .slice a ts.length cap ∧ ∀ j (h : j < ts.length), ∃ b off, a = some ⟨b, off, none⟩ ∧ w.cell? ⟨b, off + j, none⟩ = some (.string ts[j]) := by
    rcases hT with ⟨h, a, cap, e⟩ | ⟨b, off, cap, e, hc⟩
    · subst h; exact ⟨a, cap, e, fun j hj => absurd hj (by simp)⟩
    · exact ⟨_, cap, e, fun j hj => ⟨b, off, rfl, hc j hj⟩⟩
  have HC : Hid (type_of% hc) := hc
  obtain ⟨RR, hRR⟩ : ∃ RR, RR = decide (SrAscend ts) := ⟨_, rfl⟩
  rw [← hRR]
  have HNO : Hid (¬ SrAscend ts → RR = false) := fun h => by rw [hRR]; exact decide_eq_false h
  have HYES : Hid (SrAscend ts → RR = true) := fun h => by rw [hRR]; exact decide_eq_true h
  clear hRR hT hc
  go_enter Tryz.func74, Tryz.ntmps74
  go_wp2_with fail
  go_loopw [3] (fun i wr => ∃ m : Nat, m ≤ ts.length ∧ i = .int .i64 ((m + 1 : Nat) : Int) ∧ (∀ j (hj : j < ts.length), j < m + 1 → ∀ _ : 0 < j, srLess (ts[j - 1]'(by omega)) ts[j]) ∧ Below w.heap.size w wr) (fun i _ => ts.length + 1 - (intOf i).toNat)
  case atStart => exact ⟨0, Nat.zero_le _, rfl, fun j hj h h0 => absurd h0 (by omega), Below.refl _ _⟩
  case round =>
    obtain ⟨m, hm, rfl, hall, hbe⟩ := hrel
    have HALL : Hid (type_of% hall) := hall
    clear hall
    by_cases hlt : m + 1 < ts.length
    · obtain ⟨b, off, rfl, c1⟩ := HC.out (m + 1) hlt
      obtain ⟨b', off', e', c0⟩ := HC.out m (by omega)
      simp only [Option.some.injEq, Addr.mk.injEq, and_true] at e'
      obtain ⟨rfl, rfl⟩ := e'
      have hb : b < w.heap.size := World.block_lt_of_cell? w ⟨b, off + m, none⟩ c0
      have C1 := (hbe.cell (p := ⟨b, off + (m + 1), none⟩) hb).trans c1
      have C0 := (hbe.cell (p := ⟨b, off + m, none⟩) hb).trans c0
      have hm0 : (0 : Int) ≤ (m : Int) := by omega
      have hm1 : (m : Int) < (ts.length : Int) := by omega
      have hm2 : (m : Int) + 1 < (ts.length : Int) := by omega
      by_cases hls : srLess ts[m] ts[m + 1]
      · have HA2 : Hid (∀ j (hj : j < ts.length), j < m + 1 + 1 → ∀ _ : 0 < j, srLess (ts[j - 1]'(by omega)) ts[j]) := fun j hj hjk h0 => by
          by_cases c : j = m + 1
          · subst c; exact hls
          · exact HALL.out j hj (by omega) h0
        have hcmp := srLess_yes hls
        clear c0 c1 hls HALL HNO HYES HC
        generalize ts[m + 1] = x at *
        generalize ts[m]'(by omega) = y at *
        go_wp2_with fail
        go_quiet (fail)
        go_wp2_with fail
        go_roundw
        case rel => exact ⟨m + 1, by omega, by go_num, HA2.out, below_drewN hbe _⟩
        case measure => simp [intOf]; omega
      · have HR : Hid (RR = false) := HNO.out fun h => hls (h (m + 1) hlt (by omega))
        have hcmp := srLess_no hls
        clear c0 c1 hls HALL HNO HYES HC
        generalize ts[m + 1] = x at *
        generalize ts[m]'(by omega) = y at *
        go_wp2_with fail
        go_quiet (fail)
        go_wp2_with fail
        go_ret
        exact ⟨by rw [HR.out]; rfl, below_drewN hbe _⟩
    · have HR : Hid (RR = true) := HYES.out fun i h h0 => HALL.out i h (by omega) h0
      have hm2 : ¬ (m : Int) + 1 < (ts.length : Int) := by omega
      clear HALL HNO HYES HC
      go_wp2_with fail
      go_ret
      exact ⟨by rw [HR.out]; rfl, hbe⟩


theorem srSlice {w : World} {B e z : Nat} {v : Value} {n : Nat} {xs : List Value} (h : w.ownsRow B e z v n xs) : ∃ a cap, v = .slice a n cap := by
  rcases h.2 with ⟨e, h0⟩ | ⟨g, c, cur, e, _⟩
  · exact ⟨none, 0, by rw [e, h0]⟩
  · exact ⟨_, c, e⟩
theorem srTexts {w : World} {B : Nat} {v : Value} {ts : List ByteArray} (h : w.ownsRow B 9 1 v ts.length (strV ts)) : Texts w v ts := by
  rcases h.2 with ⟨e, h0⟩ | ⟨g, c, cur, e, _⟩
  · exact .inl ⟨List.length_eq_zero_iff.1 h0, _, _, e⟩
  · have h1 := h
    rw [e] at h1 ⊢
    exact Texts.own h1
theorem srOne {w : World} {g : Nat} {x : Value} (h : w.cell? ⟨g, 0, none⟩ = some x) : ∀ j u, [x][j]? = some u → w.cell? ((⟨g, 0, none⟩ : Addr).add j) = some u := fun j u hu => by
  match j, hu with
  | 0, hu =>
    simp only [List.getElem?_cons_zero, Option.some.injEq] at hu
    subst hu
    simpa [Addr.add] using h

set_option maxHeartbeats 1600000 in
set_option maxRecDepth 100000 in
theorem implSourceNames (v : Value) (es : List Src) (w : World) (hrow : SrcAt w v es) (hlen : es.length ≤ 20) (hsz : ∀ e ∈ es, e.1.size ≤ 1048576) :
    Calls Tryz.prog 75 #[v] w fun e w' => ∃ v', e = .returned v' ∧ w'.ownsRow w.heap.size 9 1 v' es.length (strV (es.map (·.1))) ∧ Below w.heap.size w w' := by
  obtain ⟨i0, hi0, hz0, hz1, hz2⟩ := info_parts Tryz.infoString
  obtain ⟨av, capv, rfl, hel⟩ := srcOpen hrow
  have HEL : Hid (type_of% hel) := hel
  have HSZ : Hid (type_of% hsz) := hsz
  clear hel hrow hsz
  go_enter Tryz.func75, Tryz.ntmps75
  go_wp2_with fail
  go_loopw [3, 8] (fun v i wr => ∃ (k : Nat) (zs : List ByteArray), k ≤ es.length ∧ i = .int .i64 k ∧ zs.length = k ∧ zs = (es.take k).map (·.1) ∧ wr.ownsRow w.heap.size 9 1 v zs.length (strV zs) ∧ Below w.heap.size w wr) (fun _ i _ => es.length - (intOf i).toNat)
  case atStart => exact ⟨0, [], Nat.zero_le _, rfl, rfl, rfl, World.ownsRow_nil _ _ _ _, Below.refl _ _⟩
  case round =>
    obtain ⟨k, zs, hk, rfl, hzl, hzs, how, hbe⟩ := hrel
    have HZ : Hid (zs = (es.take k).map (·.1)) := hzs
    have HZL : Hid (zs.length = k) := hzl
    have hzk : zs.length ≤ k := by omega
    have hzw : w.heap.size ≤ wr.heap.size := hbe.size
    clear hzs hzl
    obtain ⟨az, capz, hv⟩ := srSlice how
    subst hv
    by_cases hlt : k < es.length
    · obtain ⟨b, off, rfl, hbl, q0, q1⟩ := HEL.out k hlt
      have c0 := (hbe.cell (p := ⟨b, off + k * 2, none⟩) hbl).trans q0
      have c1 := (hbe.cell (p := ⟨b, off + k * 2 + 1, none⟩) hbl).trans q1
      have hs := HSZ.out es[k] (List.getElem_mem hlt)
      have HCL : Hid (∀ wx : World, Calls Tryz.prog 99 #[.string es[k].1] wx fun e w' => e = .returned (.string es[k].1) ∧ Below wx.heap.size wx w') := fun wx => stringsClone es[k].1 wx (by omega)
      have HB1 : Hid (Below wr.heap.size wr (wr.alloc (.cells #[.string es[k].1, .string es[k].2] 57))) := (Below.refl _ _).alloc (Nat.le_refl _) _
      have HZ2 : Hid (zs ++ [es[k].1] = (es.take (k + 1)).map (·.1)) := by
        show _ = _
        rw [List.take_succ_eq_append_getElem hlt, List.map_append, HZ.out]; rfl
      have hk0i : (0 : Int) ≤ (k : Int) := by omega
      have hk1i : (k : Int) < (es.length : Int) := by omega
      clear q0 q1 HEL HSZ hs HZ
      generalize es[k].1 = x at *
      generalize es[k].2 = y at *
      go_wp2_with fail
      refine (HCL.out _).mono ?_
      rintro e w3 ⟨rfl, hb3⟩
      have hr3 : Below wr.heap.size wr w3 := HB1.out.trans (hb3.mono HB1.out.size)
      have hw3 : Below w.heap.size w w3 := hbe.trans (hr3.mono hbe.size)
      have how3 := srKept how hr3
      have hz3w : w.heap.size ≤ w3.heap.size := hw3.size
      clear how hr3 hb3 HB1 HCL
      go_wp2_with (at_builtin; refine wpList_append_own _ rfl _ _ 123 rfl w.heap.size 9 i0 (.string ⟨#[]⟩) 1 16 Tryz.underlying123 hi0 hz0 hz1 hz2 rfl (by decide) _ _ _ rfl (how3.alloc _) ⟨w3.heap.size, 0, none⟩ 1 1 [.string x] rfl rfl ?c1 ?c2 ?c3 ?c4 ?c5 ?_)
      case c1 => exact srOne (srNew 0 rfl)
      case c2 => intro u hu; simp at hu; subst hu; rfl
      case c3 => unfold maxLen; omega
      case c4 => omega
      case c5 => simp; omega
      intro v' w4 hown' hgrow _
      have R1 : w4.ownsRow w.heap.size 9 1 v' (zs ++ [x]).length (strV (zs ++ [x])) := by simpa [strV] using hown'
      have R2 : Below w.heap.size w w4 := (hw3.alloc hz3w _).grown hgrow (by simp; omega) (fun j hj => (how3.lt j hj).1)
      have HZL2 : Hid ((zs ++ [x]).length = k + 1) := by show _ = _; rw [List.length_append, List.length_singleton, HZL.out]
      clear hown' hgrow how3 hw3
      go_wp2_with fail
      go_roundw
      case rel => exact ⟨k + 1, zs ++ [x], by omega, by go_num, HZL2.out, HZ2.out, R1, R2⟩
      case measure => simp [intOf]; omega
    · have hke : k = es.length := by omega
      have HR : Hid (wr.ownsRow w.heap.size 9 1 (.slice az zs.length capz) es.length (strV (es.map (·.1)))) := by
        show World.ownsRow _ _ _ _ _ _ _
        have e1 := HZ.out
        rw [hke, List.take_of_length_le (Nat.le_refl _)] at e1
        have e2 := HZL.out
        rw [hke] at e2
        rw [← e1, ← e2]
        exact how
      clear HEL HSZ HZ how
      go_wp2_with fail
      go_ret
      exact ⟨_, rfl, HR.out, hbe⟩

set_option maxHeartbeats 1600000 in
set_option maxRecDepth 100000 in
open Classical in
theorem implSetOk (v : Value) (es : List Src) (w : World) (hrow : SrcAt w v es) (hb : srsBulk es ≤ 1048576) (hc : ClsIs w) :
    Calls Tryz.prog 50 #[v] w fun e w' => e = .returned (.bool (decide (SrcRight es))) ∧ Below w.heap.size w w' := by
  obtain ⟨av, capv, rfl, hel⟩ := srcOpen hrow
  have hlen : es.length ≤ 1048576 := by unfold srsBulk at hb; omega
  have hszs : ∀ e ∈ es, e.1.size ≤ 1048576 := fun e he => by
    obtain ⟨j, hj, rfl⟩ := List.getElem_of_mem he
    have := sr_bulk es j hj
    omega
  obtain ⟨RR, hRR⟩ : ∃ RR, RR = decide (SrcRight es) := ⟨_, rfl⟩
  rw [← hRR]
  have HNO : Hid (¬ SrcRight es → RR = false) := fun h => by rw [hRR]; exact decide_eq_false h
  have HYES : Hid (SrcRight es → RR = true) := fun h => by rw [hRR]; exact decide_eq_true h
  have HEL : Hid (type_of% hel) := hel
  have HB : Hid (type_of% hb) := hb
  have HCL : Hid (∀ wx : World, Below w.heap.size w wx → ClsIs wx) := fun wx hx => hc.below hx hc.lt
  have HROW : Hid (∀ wx : World, Below w.heap.size w wx → SrcAt wx (.slice av es.length capv) es) := fun wx hx => hrow.below hx
  have HSZ : Hid (type_of% hszs) := hszs
  clear hRR hel hrow hb hc hszs
  by_cases h20 : es.length ≤ 20
  · have h20i : ¬ (20 : Int) < (es.length : Int) := by omega
    go_enter Tryz.func50, Tryz.ntmps50
    go_wp2_with fail
    go_loopw [10] (fun i wr => ∃ k : Nat, k ≤ es.length ∧ i = .int .i64 k ∧ (∀ j (h : j < es.length), j < k → Lx.nameOkP es[j].1 = true ∧ es[j].2.size ≤ 50000) ∧ Below w.heap.size w wr) (fun i _ => es.length - (intOf i).toNat)
    case atStart => exact ⟨0, Nat.zero_le _, rfl, fun j _ h => absurd h (by omega), Below.refl _ _⟩
    case round =>
      obtain ⟨k, hk, rfl, hall, hbe⟩ := hrel
      have HALL : Hid (type_of% hall) := hall
      clear hall
      by_cases hlt : k < es.length
      · obtain ⟨b, off, rfl, hbl, q0, q1⟩ := HEL.out k hlt
        have c0 := (hbe.cell (p := ⟨b, off + k * 2, none⟩) hbl).trans q0
        have c1 := (hbe.cell (p := ⟨b, off + k * 2 + 1, none⟩) hbl).trans q1
        have hbk := sr_bulk es k hlt
        have hB := HB.out
        have HND : Hid (∀ wx : World, Below w.heap.size w wx → Calls Tryz.prog 73 #[.string es[k].1] wx fun e w' => e = .returned (.bool (Lx.nameOkP es[k].1)) ∧ Below wx.heap.size wx w') := fun wx hx => (implNameOk es[k].1 wx (by omega) (HCL.out wx hx)).mono fun e w' ⟨h1, h2⟩ => ⟨h1, by rw [← h2]; exact Below.refl _ _⟩
        have hB1 : Below w.heap.size w (wr.alloc (.cells #[.string es[k].1, .string es[k].2] 57)) := hbe.alloc hbe.size _
        have HBX : Hid (∀ wx : World, Below (wr.alloc (.cells #[.string es[k].1, .string es[k].2] 57)).heap.size (wr.alloc (.cells #[.string es[k].1, .string es[k].2] 57)) wx → wx.cell? ⟨wr.heap.size, 1, none⟩ = some (.string es[k].2) ∧ Below w.heap.size w wx) := fun wx hx => ⟨(hx.cell (p := ⟨wr.heap.size, 1, none⟩) (by simp)).trans (srNew 1 rfl), hB1.trans (hx.mono hB1.size)⟩
        have hts : es[k].2.size ≤ 1048576 := by omega
        have hk0i : (0 : Int) ≤ (k : Int) := by omega
        have hk1i : (k : Int) < (es.length : Int) := by omega
        clear q0 q1 hbk hB
        cases hd : Lx.nameOkP es[k].1 with
        | false =>
          have HR : Hid (RR = false) := HNO.out fun h => by
            have := (h.1 k hlt).1
            rw [hd] at this
            cases this
          rw [hd] at HND
          clear hd HNO HYES HALL HEL HB HCL HROW HSZ
          generalize es[k].1 = x at *
          generalize es[k].2 = y at *
          go_wp2_with (go_at_call 73; refine (HND.out _ hB1).mono ?_; rintro e w2 ⟨rfl, hb2⟩; have hw2 := hB1.trans (hb2.mono hB1.size))
          go_ret
          exact ⟨by rw [HR.out]; rfl, hw2⟩
        | true =>
          rw [hd] at HND
          by_cases hr : es[k].2.size ≤ 50000
          · have HA2 : Hid (∀ j (h : j < es.length), j < k + 1 → Lx.nameOkP es[j].1 = true ∧ es[j].2.size ≤ 50000) := fun j hj hjk => by
              by_cases c : j = k
              · subst c; exact ⟨hd, hr⟩
              · exact HALL.out j hj (by omega)
            have hrn : ¬ (50000 : Int) < (es[k].2.size : Int) := by omega
            clear hd hr HNO HYES HALL HEL HB HCL HROW HSZ
            generalize es[k].1 = x at *
            generalize es[k].2 = y at *
            go_wp2_with (go_at_call 73; refine (HND.out _ hB1).mono ?_; rintro e w2 ⟨rfl, hb2⟩; obtain ⟨y1, hw2⟩ := HBX.out w2 hb2; clear hb2 HBX HND hB1)
            go_roundw
            case rel => exact ⟨k + 1, by omega, by go_num, HA2.out, hw2⟩
            case measure => simp [intOf]; omega
          · have HR : Hid (RR = false) := HNO.out fun h => hr (h.1 k hlt).2.1
            have hrn : (50000 : Int) < (es[k].2.size : Int) := by omega
            clear hd hr HNO HYES HALL HEL HB HCL HROW HSZ
            generalize es[k].1 = x at *
            generalize es[k].2 = y at *
            go_wp2_with (go_at_call 73; refine (HND.out _ hB1).mono ?_; rintro e w2 ⟨rfl, hb2⟩; obtain ⟨y1, hw2⟩ := HBX.out w2 hb2; clear hb2 HBX HND hB1)
            go_ret
            exact ⟨by rw [HR.out]; rfl, hw2⟩
      · have hke : k = es.length := by omega
        have HN := implSourceNames _ es wr (HROW.out wr hbe) h20 HSZ.out
        have HN2 : Hid (type_of% HN) := HN
        have HAS : Hid (∀ (u : Value) (wx : World), wx.ownsRow wr.heap.size 9 1 u es.length (strV (es.map (·.1))) → Calls Tryz.prog 74 #[u] wx fun e w' => e = .returned (.bool RR) ∧ Below wx.heap.size wx w') := fun u wx ho => by
          have ho2 : wx.ownsRow wr.heap.size 9 1 u (es.map (·.1)).length (strV (es.map (·.1))) := by rw [List.length_map]; exact ho
          have h1 := srAscends u (es.map (·.1)) wx (srTexts ho2) (by rw [List.length_map]; omega)
          have e1 : decide (SrAscend (es.map (·.1))) = RR := by
            by_cases ha : SrAscend (es.map (·.1))
            · rw [decide_eq_true ha, HYES.out]
              refine ⟨fun j h => ⟨(HALL.out j h (by omega)).1, (HALL.out j h (by omega)).2, fun h0 => ?_⟩, h20⟩
              have := ha j (by rw [List.length_map]; exact h) h0
              simpa using this
            · rw [decide_eq_false ha, HNO.out]
              intro hE
              refine ha fun i hi h0 => ?_
              have hi2 : i < es.length := by rw [List.length_map] at hi; exact hi
              have := (hE.1 i hi2).2.2 h0
              simpa using this
          rw [e1] at h1
          exact h1
        clear HNO HYES HALL HEL HB HCL HROW HSZ HN
        go_wp2_with (first | (go_at_call 74; refine (HAS.out _ _ ho2).mono ?_; rintro e w3 ⟨rfl, hb3⟩; have hw3 := hw2.trans (hb3.mono hw2.size)) | (go_at_call 75; refine HN2.out.mono ?_; rintro e w2 ⟨v', rfl, ho2, hb2⟩; have hw2 := hbe.trans (hb2.mono hbe.size)))
        go_ret
        exact ⟨rfl, hw3⟩
  · have HR : Hid (RR = false) := HNO.out fun h => h20 h.2
    have h20i : (20 : Int) < (es.length : Int) := by omega
    clear HNO HYES HEL HB HCL HROW HSZ
    go_enter Tryz.func50, Tryz.ntmps50
    go_wp2_with fail
    go_ret
    exact ⟨by rw [HR.out]; rfl, Below.refl _ _⟩

end Go.Proofs.YtllbfbllkefjeaaGreatDoor

/-
  What an environment is; the walk of spec.EnvOk.
  Ascending texts, plainly: such a list is told by what is in it; a text put in; a list sorted, and alike ones once. No program here.
  Which names are reached from a type through a list of names and types. No program here.
  The walks of impl.firstPlaces at names and types and of impl.newBook.
-/
import Derived.Test.YtdlephiocfnkhaaDoorNmD
import Derived.Test.YtdlephiocfnkhaaDoorRightV
import Derived.Lib.QuietBelow
import Derived.BigQuiet
import Derived.Test.YtdlephiocfnkhaaDoorPartsP
import Derived.Lib.SlicesCompact
import Derived.Test.YtdlephiocfnkhaaDoorSMap
import Derived.Test.YtdlephiocfnkhaaDoorNewI
import Derived.Test.YtdlephiocfnkhaaDoorToTy
import Derived.Test.YtdlephiocfnkhaaDoorTyH
import Derived.Test.YtdlephiocfnkhaaDoorStepA
namespace Go.Proofs.YtdlephiocfnkhaaDoor
open Go.RowKit
open Go.Sort (grow)

/-- so many names, right and ascending, and right types -/
def EnvRight (n : Nat) (es : List (ByteArray × Ty)) : Prop := (∀ j (h : j < es.length), dottedP es[j].1 = true ∧ Right n es[j].2 12 ∧ ∀ _ : 0 < j, lessB (es[j - 1]'(by omega)).1 es[j].1) ∧ es.length ≤ 60

set_option maxHeartbeats 1600000 in
set_option maxRecDepth 100000 in
open Classical in
theorem specEnvOk (n : Nat) (v : Value) (es : List (ByteArray × Ty)) (w : World) (hrow : EnvAt w n v es) (hb : envBulk n es ≤ 1048576) :
    Calls Tryd.prog 5 #[v] w fun e w' => e = .returned (.bool (decide (EnvRight n es))) ∧ Below w.heap.size w w' := by
  obtain ⟨av, capv, rfl, hel⟩ := envOpen hrow
  have hlen : es.length ≤ 1048576 := by unfold envBulk at hb; omega
  obtain ⟨RR, hRR⟩ : ∃ RR, RR = decide (EnvRight n es) := ⟨_, rfl⟩
  rw [← hRR]
  have HNO : Hid (¬ EnvRight n es → RR = false) := fun h => by rw [hRR]; exact decide_eq_false h
  have HYES : Hid (EnvRight n es → RR = true) := fun h => by rw [hRR]; exact decide_eq_true h
  have HEL : Hid (type_of% hel) := hel
  have HB : Hid (type_of% hb) := hb
  clear hRR hel hrow hb
  go_enter Tryd.func5, Tryd.ntmps5
  go_wp2_with fail
  go_loopw [3] (fun i wr => ∃ k : Nat, k ≤ es.length ∧ i = .int .i64 k ∧ (∀ j (h : j < es.length), j < k → dottedP es[j].1 = true ∧ Right n es[j].2 12 ∧ ∀ _ : 0 < j, lessB (es[j - 1]'(by omega)).1 es[j].1) ∧ Below w.heap.size w wr) (fun i _ => es.length - (intOf i).toNat)
  case atStart => exact ⟨0, Nat.zero_le _, rfl, fun j _ h => absurd h (by omega), Below.refl _ _⟩
  case round =>
    obtain ⟨k, hk, rfl, hall, hbe⟩ := hrel
    have HALL : Hid (type_of% hall) := hall
    clear hall
    by_cases hlt : k < es.length
    · obtain ⟨b, off, x0, x1, x2, x3, rfl, hbl, hsz, hty, q0, q1, q2, q3, q4⟩ := HEL.out k hlt
      have c0 := (hbe.cell (p := ⟨b, off + k * 5, none⟩) hbl).trans q0
      have c1 := (hbe.cell (p := ⟨b, off + k * 5 + 1, none⟩) hbl).trans q1
      have c2 := (hbe.cell (p := ⟨b, off + k * 5 + 2, none⟩) hbl).trans q2
      have c3 := (hbe.cell (p := ⟨b, off + k * 5 + 3, none⟩) hbl).trans q3
      have c4 := (hbe.cell (p := ⟨b, off + k * 5 + 4, none⟩) hbl).trans q4
      have r0 : ∀ d os, (grow (redrawn wr d) os).cell? ⟨b, off + k * 5, none⟩ = _ := fun d os => cell_regrown c0 d os
      have r1 : ∀ d os, (grow (redrawn wr d) os).cell? ⟨b, off + k * 5 + 1, none⟩ = _ := fun d os => cell_regrown c1 d os
      have r2 : ∀ d os, (grow (redrawn wr d) os).cell? ⟨b, off + k * 5 + 2, none⟩ = _ := fun d os => cell_regrown c2 d os
      have r3 : ∀ d os, (grow (redrawn wr d) os).cell? ⟨b, off + k * 5 + 3, none⟩ = _ := fun d os => cell_regrown c3 d os
      have r4 : ∀ d os, (grow (redrawn wr d) os).cell? ⟨b, off + k * 5 + 4, none⟩ = _ := fun d os => cell_regrown c4 d os
      have hbk := env_bulk n es k hlt
      have hB := HB.out
      have HND : Hid (∀ wx : World, Calls Tryd.prog 10 #[.string es[k].1] wx fun e w' => e = .returned (.bool (dottedP es[k].1)) ∧ Below wx.heap.size wx w') := fun wx => specDotted _ wx (by omega)
      have HTO : Hid (∀ d os, Calls Tryd.prog 11 #[.agg #[x0, x1, x2, x3]] (grow (redrawn wr d) os) fun e w' => e = .returned (.bool (decide (Right n es[k].2 12))) ∧ Below (grow (redrawn wr d) os).heap.size (grow (redrawn wr d) os) w') := fun d os => specTypeOk n _ _ _ ((hty.below hbe).below (below_regrown wr d os)) (by omega)
      have hk0i : (0 : Int) ≤ (k : Int) := by omega
      have hk1i : (k : Int) < (es.length : Int) := by omega
      clear q0 q1 q2 q3 q4 hty hsz hbk hB
      cases hd : dottedP es[k].1 with
      | false =>
        have HR : Hid (RR = false) := HNO.out fun h => by
          have := (h.1 k hlt).1
          rw [hd] at this
          cases this
        rw [hd] at HND
        clear hd HNO HYES HALL HEL HB HTO
        generalize es[k].1 = x at *
        go_wp2_with fail
        refine wp_region_quiet_below (by kernel_rfl) (by kernel_rfl) ?_
        repeat (go_big_quiet_step (exact Calls.regrown_of (HND.out _)))
        refine wpQuiet_nil ?_
        intro _ hw'
        obtain ⟨⟨dq, osq⟩, hw''⟩ := hw'
        subst hw''
        have D2 := hbe.trans ((below_regrown wr dq osq).mono hbe.size)
        clear r0 r1 r2 r3 r4
        generalize grow (redrawn wr dq) osq = w2 at *
        go_wp2_with fail
        go_ret
        exact ⟨by rw [HR.out]; rfl, D2⟩
      | true =>
        rw [hd] at HND
        by_cases hr : Right n es[k].2 12
        · rw [decide_eq_true hr] at HTO
          by_cases hk0 : k = 0
          · have HA2 : Hid (∀ j (h : j < es.length), j < k + 1 → dottedP es[j].1 = true ∧ Right n es[j].2 12 ∧ ∀ _ : 0 < j, lessB (es[j - 1]'(by omega)).1 es[j].1) := fun j hj hjk => by
              have e : j = k := by omega
              subst e
              exact ⟨hd, hr, fun h0 => absurd h0 (by omega)⟩
            have hkp : decide ((0 : Int) < (k : Int)) = false := decide_eq_false (by omega)
            have hkn : decide (0 < k) = false := decide_eq_false (by omega)
            clear hd hr hk0 HNO HYES HALL HEL HB
            generalize es[k].1 = x at *
            go_wp2_with fail
            refine wp_region_quiet_below (by kernel_rfl) (by kernel_rfl) ?_
            repeat (go_big_quiet_step (first | exact Calls.regrown_of (HND.out _) | exact Calls.regrown_of (HTO.out _ _)))
            refine wpQuiet_nil ?_
            intro _ hw'
            obtain ⟨⟨dq, osq⟩, hw''⟩ := hw'
            subst hw''
            have D2 := hbe.trans ((below_regrown wr dq osq).mono hbe.size)
            clear r0 r1 r2 r3 r4 HTO
            generalize grow (redrawn wr dq) osq = w2 at *
            go_wp2_with fail
            go_roundw
            case rel => exact ⟨k + 1, by omega, by go_num, HA2.out, D2⟩
            case measure => simp [intOf]; omega
          · obtain ⟨m, rfl⟩ : ∃ m, k = m + 1 := ⟨k - 1, by omega⟩
            have hlm : m < es.length := by omega
            obtain ⟨b', off', _, _, _, _, e', _, _, _, p0, _, _, _, _⟩ := HEL.out m hlm
            simp only [Option.some.injEq, Addr.mk.injEq, and_true] at e'
            obtain ⟨rfl, rfl⟩ := e'
            have P0 := (hbe.cell (p := ⟨b, off + m * 5, none⟩) hbl).trans p0
            have rP : ∀ d os, (grow (redrawn wr d) os).cell? ⟨b, off + m * 5, none⟩ = _ := fun d os => cell_regrown P0 d os
            have hm0 : (0 : Int) ≤ (m : Int) := by omega
            have hm1 : (m : Int) < (es.length : Int) := by omega
            have hkp : (0 : Int) < (m : Int) + 1 := by omega
            by_cases hls : lessB es[m].1 es[m + 1].1
            · have HA2 : Hid (∀ j (h : j < es.length), j < m + 1 + 1 → dottedP es[j].1 = true ∧ Right n es[j].2 12 ∧ ∀ _ : 0 < j, lessB (es[j - 1]'(by omega)).1 es[j].1) := fun j hj hjk => by
                by_cases c : j = m + 1
                · subst c
                  exact ⟨hd, hr, fun h0 => hls⟩
                · exact HALL.out j hj (by omega)
              have hcmp := leq_no hls
              clear hd hr hk0 hls HNO HYES HALL HEL HB p0
              generalize es[m + 1].1 = x at *
              generalize es[m].1 = y at *
              go_wp2_with fail
              refine wp_region_quiet_below (by kernel_rfl) (by kernel_rfl) ?_
              repeat (go_big_quiet_step (first | exact Calls.regrown_of (HND.out _) | exact Calls.regrown_of (HTO.out _ _)))
              refine wpQuiet_nil ?_
              intro _ hw'
              obtain ⟨⟨dq, osq⟩, hw''⟩ := hw'
              subst hw''
              have D2 := hbe.trans ((below_regrown wr dq osq).mono hbe.size)
              clear r0 r1 r2 r3 r4 rP HTO
              generalize grow (redrawn wr dq) osq = w2 at *
              go_wp2_with fail
              go_roundw
              case rel => exact ⟨m + 1 + 1, by omega, by go_num, HA2.out, D2⟩
              case measure => simp [intOf]; omega
            · have HR : Hid (RR = false) := HNO.out fun h => hls ((h.1 (m + 1) hlt).2.2 (by omega))
              have hcmp := leq_yes hls
              clear hd hr hk0 hls HNO HYES HALL HEL HB p0
              generalize es[m + 1].1 = x at *
              generalize es[m].1 = y at *
              go_wp2_with fail
              refine wp_region_quiet_below (by kernel_rfl) (by kernel_rfl) ?_
              repeat (go_big_quiet_step (first | exact Calls.regrown_of (HND.out _) | exact Calls.regrown_of (HTO.out _ _)))
              refine wpQuiet_nil ?_
              intro _ hw'
              obtain ⟨⟨dq, osq⟩, hw''⟩ := hw'
              subst hw''
              have D2 := hbe.trans ((below_regrown wr dq osq).mono hbe.size)
              clear r0 r1 r2 r3 r4 rP HTO
              generalize grow (redrawn wr dq) osq = w2 at *
              go_wp2_with fail
              go_ret
              exact ⟨by rw [HR.out]; rfl, D2⟩
        · rw [decide_eq_false hr] at HTO
          have HR : Hid (RR = false) := HNO.out fun h => hr (h.1 k hlt).2.1
          clear hd hr HNO HYES HALL HEL HB
          generalize es[k].1 = x at *
          go_wp2_with fail
          refine wp_region_quiet_below (by kernel_rfl) (by kernel_rfl) ?_
          repeat (go_big_quiet_step (first | exact Calls.regrown_of (HND.out _) | exact Calls.regrown_of (HTO.out _ _)))
          refine wpQuiet_nil ?_
          intro _ hw'
          obtain ⟨⟨dq, osq⟩, hw''⟩ := hw'
          subst hw''
          have D2 := hbe.trans ((below_regrown wr dq osq).mono hbe.size)
          clear r0 r1 r2 r3 r4 HTO
          generalize grow (redrawn wr dq) osq = w2 at *
          go_wp2_with fail
          go_ret
          exact ⟨by rw [HR.out]; rfl, D2⟩
    · by_cases h60 : es.length ≤ 60
      · have HR : Hid (RR = true) := HYES.out ⟨fun j h => HALL.out j h (by omega), h60⟩
        have h60i : (es.length : Int) ≤ 60 := by omega
        clear HNO HYES HALL HEL HB
        go_wp2_with fail
        go_ret
        exact ⟨by rw [HR.out]; rfl, hbe⟩
      · have HR : Hid (RR = false) := HNO.out fun h => h60 h.2
        have h60i : ¬ (es.length : Int) ≤ 60 := by omega
        clear HNO HYES HALL HEL HB
        go_wp2_with fail
        go_ret
        exact ⟨by rw [HR.out]; rfl, hbe⟩

end Go.Proofs.YtdlephiocfnkhaaDoor

namespace Go.Proofs.YtdlephiocfnkhaaDoor
open Go.RowKit

/-- the one is less than the other -/
def bl (a b : ByteArray) : Prop := a.data.toList < b.data.toList
theorem bl_trans {a b c : ByteArray} (h : bl a b) (k : bl b c) : bl a c := List.lt_trans h k
theorem bl_irrefl (a : ByteArray) : ¬ bl a a := List.lt_irrefl _
theorem ba_inj {a b : ByteArray} (h : a.data.toList = b.data.toList) : a = b := by
  cases a; cases b; congr; exact Array.toList_inj.1 h
theorem bl_tri {a b : ByteArray} (h : ¬ bl a b) (k : ¬ bl b a) : a = b := ba_inj (List.le_antisymm k h)
def Asc (l : List ByteArray) : Prop := l.Pairwise bl

theorem Asc.unique {l r : List ByteArray} (hl : Asc l) (hr : Asc r) (h : ∀ x, x ∈ l ↔ x ∈ r) : l = r := by
  induction l generalizing r with
  | nil =>
    cases r with
    | nil => rfl
    | cons b s => exact absurd ((h b).2 (List.mem_cons_self ..)) (by simp)
  | cons a l ih =>
    cases r with
    | nil => exact absurd ((h a).1 (List.mem_cons_self ..)) (by simp)
    | cons b s =>
      obtain ⟨ha, hl2⟩ := List.pairwise_cons.1 hl
      obtain ⟨hb, hr2⟩ := List.pairwise_cons.1 hr
      have e : a = b := by
        apply Classical.byContradiction
        intro ne
        have h1 : bl b a := by
          rcases List.mem_cons.1 ((h a).1 (List.mem_cons_self ..)) with e | m
          · exact absurd e ne
          · exact hb a m
        have h2 : bl a b := by
          rcases List.mem_cons.1 ((h b).2 (List.mem_cons_self ..)) with e | m
          · exact absurd e.symm ne
          · exact ha b m
        exact bl_irrefl _ (bl_trans h1 h2)
      subst e
      refine congrArg (a :: ·) (ih hl2 hr2 fun x => ?_)
      constructor
      · intro hx
        rcases List.mem_cons.1 ((h x).1 (List.mem_cons_of_mem _ hx)) with e | m
        · subst e; exact absurd (ha _ hx) (bl_irrefl _)
        · exact m
      · intro hx
        rcases List.mem_cons.1 ((h x).2 (List.mem_cons_of_mem _ hx)) with e | m
        · subst e; exact absurd (hb _ hx) (bl_irrefl _)
        · exact m

theorem Asc.put {l : List ByteArray} {s : ByteArray} {k : Nat} (hl : Asc l) (h1 : ∀ j (hj : j < l.length), j < k → bl l[j] s) (h2 : ∀ hj : k < l.length, ¬ bl l[k] s ∧ l[k] ≠ s) : Asc (l.take k ++ ([s] ++ l.drop k)) := by
  have hd := hl
  unfold Asc at hd
  rw [← List.take_append_drop k l, List.pairwise_append] at hd
  obtain ⟨d1, d2, d3⟩ := hd
  have hs : ∀ x ∈ l.drop k, bl s x := by
    cases hc : l.drop k with
    | nil => intro x hx; simp at hx
    | cons y r =>
      have hk : k < l.length := by
        apply Classical.byContradiction
        intro n
        rw [List.drop_of_length_le (by omega)] at hc
        simp at hc
      have hy : y = l[k] := by
        rw [List.drop_eq_getElem_cons hk] at hc
        injection hc with e _
        exact e.symm
      have hsy : bl s y := by
        apply Classical.byContradiction
        intro n
        have := h2 hk
        rw [← hy] at this
        exact this.2 (bl_tri this.1 n)
      rw [hc] at d2
      intro x hx
      rcases List.mem_cons.1 hx with e | m
      · rw [e]; exact hsy
      · exact bl_trans hsy ((List.pairwise_cons.1 d2).1 x m)
  have ht : ∀ x ∈ l.take k, bl x s := fun x hx => by
    obtain ⟨j, hj, rfl⟩ := List.getElem_of_mem hx
    rw [List.getElem_take]
    rw [List.length_take] at hj
    exact h1 j (by omega) (by omega)
  unfold Asc
  rw [List.singleton_append, List.pairwise_append, List.pairwise_cons]
  refine ⟨d1, ⟨hs, d2⟩, fun x hx y hy => ?_⟩
  rcases List.mem_cons.1 hy with e | m
  · rw [e]; exact ht x hx
  · exact d3 x hx y m
theorem mem_put {l : List ByteArray} {s : ByteArray} (k : Nat) (x : ByteArray) : x ∈ l.take k ++ ([s] ++ l.drop k) ↔ x = s ∨ x ∈ l := by
  conv => rhs; rw [← List.take_append_drop k l]
  simp only [List.mem_append, List.mem_singleton]
  constructor
  · rintro (h | h | h)
    · exact .inr (.inl h)
    · exact .inl h
    · exact .inr (.inr h)
  · rintro (h | h | h)
    · exact .inr (.inl h)
    · exact .inl h
    · exact .inr (.inr h)

theorem compactUpTo_sorted (d : Array (List UInt8)) (hs : ∀ i j, i ≤ j → j < d.size → d[i]! ≤ d[j]!) (m : Nat) (hm : m ≤ d.size) : (Lib.compactUpTo d m).Pairwise (· < ·) ∧ ∀ x, x ∈ Lib.compactUpTo d m ↔ ∃ j, j < m ∧ x = d[j]! := by
  induction m with
  | zero => exact ⟨by simp [Lib.compactUpTo], fun x => by simp [Lib.compactUpTo]⟩
  | succ m ih =>
    obtain ⟨ih1, ih2⟩ := ih (by omega)
    rw [Lib.compactUpTo_succ]
    by_cases hk : Lib.keeps d m = true
    · rw [if_pos hk]
      refine ⟨?_, fun x => ?_⟩
      · rw [List.pairwise_append]
        refine ⟨ih1, List.pairwise_singleton _ _, fun x hx y hy => ?_⟩
        obtain ⟨j, hj, rfl⟩ := (ih2 x).1 hx
        obtain rfl := List.mem_singleton.1 hy
        have h1 := hs j (m - 1) (by omega) (by omega)
        have h2 := hs (m - 1) m (by omega) (by omega)
        have h3 : d[m]! ≠ d[m - 1]! := by
          simp only [Lib.keeps] at hk
          intro e
          simp [e] at hk
          omega
        apply Classical.byContradiction
        intro n
        have n : d[m]! ≤ d[j]! := n
        exact h3 (List.le_antisymm (List.le_trans n h1) h2)
      · rw [List.mem_append, List.mem_singleton, ih2 x]
        constructor
        · rintro (⟨j, hj, e⟩ | e)
          · exact ⟨j, by omega, e⟩
          · exact ⟨m, by omega, e⟩
        · rintro ⟨j, hj, e⟩
          by_cases c : j = m
          · subst c; exact .inr e
          · exact .inl ⟨j, by omega, e⟩
    · rw [if_neg hk, List.append_nil]
      refine ⟨ih1, fun x => ?_⟩
      rw [ih2 x]
      have hm0 : 0 < m := by
        rcases Nat.eq_zero_or_pos m with e | e
        · subst e; exact absurd (Lib.keeps_lt_one d 0 (by omega)) hk
        · exact e
      have he : d[m]! = d[m - 1]! := by
        apply Classical.byContradiction
        intro n
        exact hk (Lib.keeps_pos n)
      constructor
      · rintro ⟨j, hj, e⟩; exact ⟨j, by omega, e⟩
      · rintro ⟨j, hj, e⟩
        by_cases c : j = m
        · subst c; exact ⟨j - 1, by omega, e.trans he⟩
        · exact ⟨j, by omega, e⟩

theorem compact_sorted (ss : List (List UInt8)) : (Lib.compact (ss.mergeSort fun x y => decide (x ≤ y))).Pairwise (· < ·) ∧ ∀ x, x ∈ Lib.compact (ss.mergeSort fun x y => decide (x ≤ y)) ↔ x ∈ ss := by
  have hp : (ss.mergeSort fun x y => decide (x ≤ y)).Pairwise (fun a b => decide (a ≤ b) = true) := List.pairwise_mergeSort (fun a b c h k => by
    simp only [decide_eq_true_eq] at h k ⊢
    exact List.le_trans h k) (fun a b => by
    simp only [Bool.or_eq_true, decide_eq_true_eq]
    exact List.le_total a b) ss
  have hm : ∀ x, x ∈ (ss.mergeSort fun x y => decide (x ≤ y)) ↔ x ∈ ss := fun x => (List.mergeSort_perm ss _).mem_iff
  generalize (ss.mergeSort fun x y => decide (x ≤ y)) = q at *
  have hq : ∀ j, j < q.length → q.toArray[j]! = q[j]! := fun j hj => by simp
  have hs : ∀ i j, i ≤ j → j < q.toArray.size → q.toArray[i]! ≤ q.toArray[j]! := fun i j hij hj => by
    have hj' : j < q.length := by simpa using hj
    by_cases c : i = j
    · subst c; exact List.le_refl _
    · have := List.pairwise_iff_getElem.1 hp i j (by omega) hj' (by omega)
      simp only [decide_eq_true_eq] at this
      simpa [hj', show i < q.length by omega] using this
  obtain ⟨h1, h2⟩ := compactUpTo_sorted q.toArray hs q.length (by simp)
  refine ⟨h1, fun x => ?_⟩
  unfold Lib.compact
  rw [h2 x, ← hm x, List.mem_iff_getElem]
  constructor
  · rintro ⟨j, hj, e⟩; exact ⟨j, hj, by rw [e]; simp [hj]⟩
  · rintro ⟨j, hj, e⟩; exact ⟨j, hj, by rw [← e]; simp [hj]⟩

/-- the names in it -/
def namesIn (n : Nat) (t : Ty) (x : ByteArray) : Prop := ∃ u ∈ Ty.nodes n t, u.kind = 4 ∧ u.name = x

end Go.Proofs.YtdlephiocfnkhaaDoor

namespace Go.Proofs.YtdlephiocfnkhaaDoor

/-- the first of that name stands there -/
def First (es : List (ByteArray × Ty)) (x : ByteArray) (j : Nat) : Prop := ∃ h : j < es.length, es[j].1 = x ∧ ∀ i (hi : i < j), (es[i]'(by omega)).1 ≠ x
theorem First.one {es : List (ByteArray × Ty)} {x : ByteArray} {i j : Nat} (h : First es x i) (k : First es x j) : i = j := by
  obtain ⟨h1, h2, h3⟩ := h
  obtain ⟨k1, k2, k3⟩ := k
  rcases Nat.lt_trichotomy i j with c | c | c
  · exact absurd h2 (k3 i c)
  · exact c
  · exact absurd k2 (h3 j c)
/-- a name that stands in the type of that name -/
def Nx (n : Nat) (es : List (ByteArray × Ty)) (x y : ByteArray) : Prop := ∃ j, ∃ h : First es x j, namesIn n (es[j]'h.1).2 y
/-- those that are reached by so many steps -/
def Lv (n : Nat) (es : List (ByteArray × Ty)) (t : Ty) : Nat → ByteArray → Prop
  | 0, x => namesIn n t x
  | i + 1, x => Lv n es t i x ∨ ∃ y, Lv n es t i y ∧ Nx n es y x
/-- the names that are reached -/
def Rch (n : Nat) (es : List (ByteArray × Ty)) (t : Ty) (x : ByteArray) : Prop := ∃ i, Lv n es t i x
theorem Rch.base {n : Nat} {es : List (ByteArray × Ty)} {t : Ty} {x : ByteArray} (h : namesIn n t x) : Rch n es t x := ⟨0, h⟩
theorem Rch.step {n : Nat} {es : List (ByteArray × Ty)} {t : Ty} {x y : ByteArray} (h : Rch n es t x) (k : Nx n es x y) : Rch n es t y := by
  obtain ⟨i, hi⟩ := h
  exact ⟨i + 1, .inr ⟨x, hi, k⟩⟩

theorem Lv.mono {n : Nat} {es : List (ByteArray × Ty)} {t : Ty} {i j : Nat} {x : ByteArray} (h : Lv n es t i x) (hij : i ≤ j) : Lv n es t j x := by
  induction j with
  | zero =>
    obtain rfl : i = 0 := by omega
    exact h
  | succ j ih =>
    by_cases c : i = j + 1
    · subst c; exact h
    · exact .inl (ih (by omega))
theorem Lv.rch {n : Nat} {es : List (ByteArray × Ty)} {t : Ty} {i : Nat} {x : ByteArray} (h : Lv n es t i x) : Rch n es t x := ⟨i, h⟩
theorem countP_all {α : Type} (p q : α → Bool) (l : List α) (h : ∀ x ∈ l, p x = true → q x = true) : l.countP p ≤ l.countP q ∧ (l.countP p = l.countP q → ∀ x ∈ l, q x = true → p x = true) := by
  induction l with
  | nil => exact ⟨Nat.le_refl _, fun _ x hx => absurd hx (by simp)⟩
  | cons a r ih =>
    obtain ⟨h1, h2⟩ := ih fun x hx => h x (List.mem_cons_of_mem _ hx)
    have ha := h a (by simp)
    rw [List.countP_cons, List.countP_cons]
    cases hp : p a <;> cases hq : q a
    · refine ⟨by simpa using h1, fun e x hx hqx => ?_⟩
      rcases List.mem_cons.1 hx with rfl | hx
      · rw [hq] at hqx; cases hqx
      · exact h2 (by simpa using e) x hx hqx
    · refine ⟨by simp; omega, fun e => ?_⟩
      simp at e
      omega
    · rw [hq] at ha; exact absurd (ha hp) (by simp)
    · refine ⟨by simp; omega, fun e x hx hqx => ?_⟩
      rcases List.mem_cons.1 hx with rfl | hx
      · exact hp
      · exact h2 (by simpa using e) x hx hqx

open Classical in
/-- by as many steps as there are in the list all are reached -/
theorem rch_lv {n : Nat} {es : List (ByteArray × Ty)} {t : Ty} {x : ByteArray} (h : Rch n es t x) : Lv n es t (es.length + 1) x := by
  -- how many of the list are reached by so many steps
  let c : Nat → Nat := fun i => (List.range es.length).countP fun j => decide (∃ h : j < es.length, Lv n es t i es[j].1)
  have hle : ∀ i, c i ≤ es.length := fun i => by
    have := List.countP_le_length (p := fun j => decide (∃ h : j < es.length, Lv n es t i es[j].1)) (l := List.range es.length)
    rwa [List.length_range] at this
  have hup : ∀ i, c i ≤ c (i + 1) ∧ (c i = c (i + 1) → ∀ j (hj : j < es.length), Lv n es t (i + 1) es[j].1 → Lv n es t i es[j].1) := fun i => by
    obtain ⟨h1, h2⟩ := countP_all (fun j => decide (∃ h : j < es.length, Lv n es t i es[j].1)) (fun j => decide (∃ h : j < es.length, Lv n es t (i + 1) es[j].1)) (List.range es.length) fun j hj hp => by
      obtain ⟨hj', hl⟩ := of_decide_eq_true hp
      exact decide_eq_true ⟨hj', .inl hl⟩
    refine ⟨h1, fun e j hj hl => ?_⟩
    have := h2 e j (List.mem_range.2 hj) (decide_eq_true ⟨hj, hl⟩)
    exact (of_decide_eq_true this).2
  -- somewhere nothing is added
  have hst : ∃ i, i ≤ es.length ∧ c i = c (i + 1) := by
    apply Classical.byContradiction
    intro hn
    have hgt : ∀ i, i ≤ es.length + 1 → i ≤ c i := fun i => by
      induction i with
      | zero => intro _; exact Nat.zero_le _
      | succ i ih =>
        intro hi
        have h1 := ih (by omega)
        have h2 := (hup i).1
        have h3 : c i ≠ c (i + 1) := fun e => hn ⟨i, by omega, e⟩
        omega
    have := hgt (es.length + 1) (Nat.le_refl _)
    have := hle (es.length + 1)
    omega
  obtain ⟨i, hi, e⟩ := hst
  have hback := (hup i).2 e
  have hclose : ∀ k z, Lv n es t (i + 1 + k) z → Lv n es t (i + 1) z := fun k => by
    induction k with
    | zero => exact fun z h => h
    | succ k ih =>
      intro z hz
      rcases hz with hz | ⟨y, h1, j, hf, h2⟩
      · exact ih z hz
      · have hy := ih y h1
        obtain ⟨hj, he, hm⟩ := hf
        have : Lv n es t i es[j].1 := hback j hj (by rw [he]; exact hy)
        rw [he] at this
        exact .inr ⟨y, this, j, ⟨hj, he, hm⟩, h2⟩
  obtain ⟨k, hk⟩ := h
  have := hclose k x (hk.mono (by omega))
  exact this.mono (by omega)

/-- no more different texts than there are in a list that has them all -/
theorem nodup_len {l m : List ByteArray} (h : l.Nodup) (hs : ∀ x ∈ l, x ∈ m) : l.length ≤ m.length := by
  induction l generalizing m with
  | nil => exact Nat.zero_le _
  | cons a r ih =>
    rw [List.nodup_cons] at h
    have ha := hs a (by simp)
    obtain ⟨u, v, rfl⟩ := List.append_of_mem ha
    have h1 := ih (m := u ++ v) h.2 fun x hx => by
      have hne : x ≠ a := fun e => h.1 (e ▸ hx)
      have := hs x (List.mem_cons_of_mem _ hx)
      simp only [List.mem_append, List.mem_cons] at this ⊢
      rcases this with h | h | h
      · exact .inl h
      · exact absurd h hne
      · exact .inr h
    simp only [List.length_append, List.length_cons] at h1 ⊢
    omega
theorem asc_nodup {l : List ByteArray} (h : Asc l) : l.Nodup := by
  unfold Asc at h
  exact List.Pairwise.imp (fun {a b} (hab : bl a b) (e : a = b) => bl_irrefl b (by rw [e] at hab; exact hab)) h

/-- all names that there are -/
def allNames (n : Nat) (es : List (ByteArray × Ty)) (t : Ty) : List ByteArray := ((Ty.nodes n t).map (·.name)) ++ es.flatMap fun e => (Ty.nodes n e.2).map (·.name)
theorem rch_all {n : Nat} {es : List (ByteArray × Ty)} {t : Ty} {x : ByteArray} (h : Rch n es t x) : x ∈ allNames n es t := by
  obtain ⟨i, h⟩ := h
  induction i with
  | zero =>
    obtain ⟨u, hu, _, e⟩ := h
    exact List.mem_append_left _ (List.mem_map.2 ⟨u, hu, e⟩)
  | succ i ih =>
    rcases h with h | ⟨_, _, j, hf, u, hu, _, e⟩
    · exact ih h
    · exact List.mem_append_right _ (List.mem_flatMap.2 ⟨_, List.getElem_mem hf.1, List.mem_map.2 ⟨u, hu, e⟩⟩)

end Go.Proofs.YtdlephiocfnkhaaDoor

namespace Go.Proofs.YtdlephiocfnkhaaDoor
open Go.RowKit

/-- the map of a book: at each name where the first of it stands -/
def BookD (es : List (ByteArray × Ty)) (k : Nat) (D : List (ByteArray × Value)) : Prop := ∀ s, (∀ j, j < k → First es s j → lookD D s = some (.int .i64 j)) ∧ ((∀ j (h : j < es.length), j < k → es[j].1 ≠ s) → lookD D s = none)
theorem first_below {es : List (ByteArray × Ty)} {s : ByteArray} {k : Nat} (hk : k ≤ es.length) : (∃ j, j < k ∧ First es s j) ∨ ∀ j (h : j < es.length), j < k → es[j].1 ≠ s := by
  induction k with
  | zero => exact .inr fun j _ h => absurd h (by omega)
  | succ k ih =>
    rcases ih (by omega) with ⟨j, hj, hf⟩ | hn
    · exact .inl ⟨j, by omega, hf⟩
    · by_cases c : (es[k]'(by omega)).1 = s
      · exact .inl ⟨k, by omega, by omega, c, fun i hi => hn i (by omega) hi⟩
      · refine .inr fun j h hj => ?_
        by_cases e : j = k
        · subst e; exact c
        · exact hn j h (by omega)
theorem BookD.zero (es : List (ByteArray × Ty)) : BookD es 0 [] := fun s => ⟨fun j hj => absurd hj (by omega), fun _ => rfl⟩
theorem BookD.skip {es : List (ByteArray × Ty)} {k : Nat} {D : List (ByteArray × Value)} (h : BookD es k D) (hk : k < es.length) (hs : lookD D es[k].1 ≠ none) : BookD es (k + 1) D := fun s => by
  have hold : ∃ i, i < k ∧ First es es[k].1 i := by
    rcases first_below (es := es) (s := es[k].1) (k := k) (by omega) with q | q
    · exact q
    · exact absurd ((h es[k].1).2 q) hs
  obtain ⟨i, hi, hf⟩ := hold
  refine ⟨fun j hj hfj => ?_, fun hn => (h s).2 fun j hl hj => hn j hl (by omega)⟩
  by_cases c : j = k
  · subst c
    obtain ⟨hj1, hj2, hj3⟩ := hfj
    subst hj2
    have := hf.one ⟨hj1, rfl, hj3⟩
    omega
  · exact (h s).1 j (by omega) hfj
theorem BookD.put {es : List (ByteArray × Ty)} {k : Nat} {D : List (ByteArray × Value)} (h : BookD es k D) (hk : k < es.length) (hs : lookD D es[k].1 = none) : BookD es (k + 1) (D ++ [(es[k].1, .int .i64 k)]) := fun s => by
  have hno : ∀ j (hl : j < es.length), j < k → es[j].1 ≠ es[k].1 := by
    rcases first_below (es := es) (s := es[k].1) (k := k) (by omega) with ⟨i, hi, hf⟩ | q
    · rw [(h es[k].1).1 i hi hf] at hs; cases hs
    · exact q
  rw [lookD_app]
  refine ⟨fun j hj hfj => ?_, fun hn => ?_⟩
  · by_cases c : j = k
    · subst c
      obtain ⟨hj1, hj2, hj3⟩ := hfj
      subst hj2
      rw [hs]
      show (none : Option Value).or (if es[j].1 = es[j].1 then some (Value.int .i64 j) else none) = _
      rw [if_pos rfl]
      rfl
    · rw [(h s).1 j (by omega) hfj]; rfl
  · rw [(h s).2 fun j hl hj => hn j hl (by omega)]
    show (none : Option Value).or (if es[k].1 = s then some (Value.int .i64 k) else none) = _
    rw [if_neg (hn k hk (by omega))]
    rfl

theorem block3B {W : World} {b : Nat} {x0 x1 x2 : Value} (h : W.heap[b]? = some (.cells #[x0, x1, x2] 47 (0, 0))) : (W.cell? ⟨b, 0, none⟩ = some x0 ∧ W.cell? ⟨b, 1, none⟩ = some x1 ∧ W.cell? ⟨b, 2, none⟩ = some x2) ∧ ∀ j, W.frozen? ⟨b, j, none⟩ = false := by
  refine ⟨⟨?_, ?_, ?_⟩, fun j => frozen_of_row W b j _ _ h⟩
  · rw [cell_of_row W b 0 _ _ (0, 0) h]; rfl
  · rw [cell_of_row W b 1 _ _ (0, 0) h]; rfl
  · rw [cell_of_row W b 2 _ _ (0, 0) h]; rfl

theorem put_book {w0 : World} {b : Nat} {z0 z1 z2 x0 x1 x2 : Value} (h : w0.heap[b]? = some (.cells #[z0, z1, z2] 47 (0, 0))) : (((w0.setCell ⟨b, 0, none⟩ x0).setCell ⟨b, 1, none⟩ x1).setCell ⟨b, 2, none⟩ x2).heap[b]? = some (.cells #[x0, x1, x2] 47 (0, 0)) :=
  heap_setCell_same _ b 2 _ _ x2 (heap_setCell_same _ b 1 _ _ x1 (heap_setCell_same w0 b 0 _ _ x0 h))
theorem ret_book {R : Ending → World → Prop} {W : World} {tmps : Array Value} {b : Nat} {x0 x1 x2 : Value} (hp : tmps[2]?.getD undef = .pointer (some ⟨b, 0, none⟩))
    (h : W.cell? ⟨b, 0, none⟩ = some x0 ∧ W.cell? ⟨b, 1, none⟩ = some x1 ∧ W.cell? ⟨b, 2, none⟩ = some x2) (hR : R (.returned (.agg #[x0, x1, x2])) W) :
    bodyPost Tryd.prog Tryd.f13 R .ret { tmps := tmps, defers := [] } W := by
  obtain ⟨h0, h1, h2⟩ := h
  refine bodyPost_ret (v := .agg #[x0, x1, x2]) ?_ rfl hR
  simp [results, Tryd.results13, go_sem, hp, h0, h1, h2]

/-- what stands at a name of the map, found or not -/
theorem lookBk {W : World} {M : Nat} {D : List (ByteArray × Value)} (hM : SMap W M D) (s : ByteArray) (z : Value) (h : lookD D s = some z) : Sem.run Tryd.prog (Instr.lookup 44 (.map (some M)) (.string s) true) W = .ok (.tuple #[z, .bool true]) W := by
  have := run_lookup_text (P := Tryd.prog) (T := 44) (k := 9) (e := 3) (z := .int .i64 0) Tryd.underlying44 Tryd.underlying9 (by kernel_rfl) hM s true
  rw [h] at this
  exact this
theorem lookBkNo {W : World} {M : Nat} {D : List (ByteArray × Value)} (hM : SMap W M D) (s : ByteArray) (h : lookD D s = none) : Sem.run Tryd.prog (Instr.lookup 44 (.map (some M)) (.string s) true) W = .ok (.tuple #[.int .i64 0, .bool false]) W := by
  have := run_lookup_text (P := Tryd.prog) (T := 44) (k := 9) (e := 3) (z := .int .i64 0) Tryd.underlying44 Tryd.underlying9 (by kernel_rfl) hM s true
  rw [h] at this
  exact this

set_option maxHeartbeats 800000 in
set_option maxRecDepth 100000 in
theorem nameFn (x : ByteArray) (x0 x1 x2 x3 : Value) (w : World) :
    Calls Tryd.prog 21 #[.agg #[.string x, x0, x1, x2, x3]] w fun e w' => e = .returned (.string x) ∧ Below w.heap.size w w' := by
  have hB1 : Below w.heap.size w (w.alloc (.cells #[.string x, x0, x1, x2, x3] 41)) := (Below.refl _ _).alloc (Nat.le_refl _) _
  go_enter Tryd.func21, Tryd.ntmps21
  go_wp2_with fail
  go_ret
  exact ⟨rfl, hB1⟩

set_option maxHeartbeats 1600000 in
set_option maxRecDepth 100000 in
theorem implFirst (n : Nat) (v : Value) (es : List (ByteArray × Ty)) (w : World) (hrow : EnvAt w n v es) (hlen : es.length ≤ 1048576) :
    Calls Tryd.prog 20 #[v, .func (Fn.func 21) #[] #[]] w fun e w' => ∃ (M : Nat) (D : List (ByteArray × Value)), e = .returned (.map (some M)) ∧ SMap w' M D ∧ BookD es es.length D ∧ w.heap.size ≤ M ∧ Below w.heap.size w w' := by
  obtain ⟨av, capv, rfl, hel⟩ := envOpen hrow
  have HEL : Hid (type_of% hel) := hel
  have hmm := @run_makeMap Tryd.prog
  clear hel hrow
  go_enter Tryd.func20, Tryd.ntmps20
  go_wp2_with fail
  go_loopw [14] (fun i wr => ∃ (k : Nat) (D : List (ByteArray × Value)), k ≤ es.length ∧ i = .int .i64 k ∧ BookD es k D ∧ SMap wr w.heap.size D ∧ Below w.heap.size w wr) (fun i _ => es.length - (intOf i).toNat)
  case atStart =>
    refine ⟨0, [], Nat.zero_le _, rfl, BookD.zero es, SMap.made (MapKept.heap_alloc _ _).1, (Below.refl _ _).alloc (Nat.le_refl _) _⟩
  case round =>
    obtain ⟨k, D, hk, rfl, hD, hS, hbe⟩ := hrel
    by_cases hlt : k < es.length
    · obtain ⟨b, off, x0, x1, x2, x3, rfl, hbl, hsz, hty, q0, q1, q2, q3, q4⟩ := HEL.out k hlt
      obtain ⟨an2, ln2, cn2, ak2, lk2, ck2, ee⟩ := hty.shape
      simp only [List.cons.injEq, and_true] at ee
      obtain ⟨rfl, rfl, rfl, rfl⟩ := ee
      have c0 := (hbe.cell (p := ⟨b, off + k * 5, none⟩) hbl).trans q0
      have c1 := (hbe.cell (p := ⟨b, off + k * 5 + 1, none⟩) hbl).trans q1
      have c2 := (hbe.cell (p := ⟨b, off + k * 5 + 2, none⟩) hbl).trans q2
      have c3 := (hbe.cell (p := ⟨b, off + k * 5 + 3, none⟩) hbl).trans q3
      have c4 := (hbe.cell (p := ⟨b, off + k * 5 + 4, none⟩) hbl).trans q4
      have hk0i : (0 : Int) ≤ (k : Int) := by omega
      have hk1i : (k : Int) < (es.length : Int) := by omega
      have hA1 : Below wr.heap.size wr (wr.alloc (.cells #[.string es[k].1, .int .i64 es[k].2.kind, .string es[k].2.name, .slice an2 ln2 cn2, .slice ak2 lk2 ck2] 41)) := (Below.refl _ _).alloc (Nat.le_refl _) _
      have HF : Hid (type_of% (nameFn es[k].1 (.int .i64 es[k].2.kind) (.string es[k].2.name) (.slice an2 ln2 cn2) (.slice ak2 lk2 ck2) (wr.alloc (.cells #[.string es[k].1, .int .i64 es[k].2.kind, .string es[k].2.name, .slice an2 ln2 cn2, .slice ak2 lk2 ck2] 41)))) := nameFn es[k].1 (.int .i64 es[k].2.kind) (.string es[k].2.name) (.slice an2 ln2 cn2) (.slice ak2 lk2 ck2) (wr.alloc (.cells #[.string es[k].1, .int .i64 es[k].2.kind, .string es[k].2.name, .slice an2 ln2 cn2, .slice ak2 lk2 ck2] 41))
      have HD : Hid (type_of% hD) := hD
      have HPUT : Hid (lookD D es[k].1 = none → BookD es (k + 1) (D ++ [(es[k].1, .int .i64 k)])) := fun h => hD.put hlt h
      have HSKIP : Hid (lookD D es[k].1 ≠ none → BookD es (k + 1) D) := fun h => hD.skip hlt h
      clear q0 q1 q2 q3 q4 hty hsz hD HEL
      generalize es[k].1 = x at *
      generalize es[k].2.kind = kd at *
      generalize es[k].2.name = tn at *
      go_wp2_with fail
      refine HF.out.mono ?_
      rintro e w2 ⟨rfl, hb2⟩
      have hb12 : Below wr.heap.size wr w2 := hA1.trans (hb2.mono hA1.size)
      have hbw2 : Below w.heap.size w w2 := hbe.trans (hb12.mono hbe.size)
      have hS2 : SMap w2 w.heap.size D := hS.same (hb12.block _ hS.lt)
      clear HF hb2 hb12 hA1 hS c0 c1 c2 c3 c4
      by_cases hs : lookD D x = none
      · have hlk := lookBkNo hS2 x hs
        obtain ⟨w3, hrun0, hS3, hbut⟩ := run_update_text (P := Tryd.prog) (T := 44) (k := 9) (e := 3) Tryd.underlying44 Tryd.underlying9 hS2 x hs (.int .i64 k)
        have HEND : Hid (SMap w3 w.heap.size (D ++ [(x, .int .i64 k)]) ∧ Below w.heap.size w w3) := ⟨hS3, hbw2.trans (hbut.below (Nat.le_refl _))⟩
        have HB2 : Hid (type_of% (HPUT.out hs)) := HPUT.out hs
        clear hs hS3 hbut hbw2 HPUT HSKIP hbe HD hS2
        go_wp2_with fail
        go_roundw
        case rel => exact ⟨k + 1, _, by omega, by go_num, HB2.out, HEND.out.1, HEND.out.2⟩
        case measure => simp [intOf]; omega
      · obtain ⟨z, hz⟩ : ∃ z, lookD D x = some z := Option.ne_none_iff_exists'.1 hs
        have hlk := lookBk hS2 x z hz
        have HEND : Hid (SMap w2 w.heap.size D ∧ Below w.heap.size w w2) := ⟨hS2, hbw2⟩
        have HB2 : Hid (type_of% (HSKIP.out hs)) := HSKIP.out hs
        clear hs hbw2 HPUT HSKIP hbe HD hS2 hz
        go_wp2_with fail
        go_roundw
        case rel => exact ⟨k + 1, _, by omega, by go_num, HB2.out, HEND.out.1, HEND.out.2⟩
        case measure => simp [intOf]; omega
    · obtain rfl : k = es.length := by omega
      have HEND : Hid (BookD es es.length D ∧ SMap wr w.heap.size D ∧ Below w.heap.size w wr) := ⟨hD, hS, hbe⟩
      clear HEL hD hS hbe
      go_wp2_with fail
      go_ret
      obtain ⟨r1, r2, r3⟩ := HEND.out
      exact ⟨w.heap.size, D, rfl, r2, r1, Nat.le_refl _, r3⟩

set_option maxHeartbeats 1600000 in
set_option maxRecDepth 100000 in
theorem implNewBook (n : Nat) (v : Value) (es : List (ByteArray × Ty)) (w : World) (hrow : EnvAt w n v es) (hlen : es.length ≤ 1048576) :
    Calls Tryd.prog 13 #[v] w fun e w' => ∃ (M : Nat) (D : List (ByteArray × Value)) (pm : Option Addr), e = .returned (.agg #[v, .map (some M), .pointer pm]) ∧ SMap w' M D ∧ BookD es es.length D ∧ w.heap.size ≤ M ∧ Below w.heap.size w w' := by
  have hB1 : Below w.heap.size w (w.alloc (.cells #[.slice none 0 0, .map none, .pointer none] 47)) := (Below.refl _ _).alloc (Nat.le_refl _) _
  have hR1 : (w.alloc (.cells #[.slice none 0 0, .map none, .pointer none] 47)).heap[w.heap.size]? = some (.cells #[.slice none 0 0, .map none, .pointer none] 47 (0, 0)) := (MapKept.heap_alloc w _).1
  have HF : Hid (type_of% (implFirst n v es _ (hrow.below hB1) hlen)) := implFirst n v es _ (hrow.below hB1) hlen
  obtain ⟨av, capv, rfl, _⟩ := envOpen hrow
  have hzW : (w.alloc (.cells #[.slice none 0 0, .map none, .pointer none] 47)).heap.size = w.heap.size + 1 := by simp
  clear hrow
  go_enter Tryd.func13, Tryd.ntmps13
  go_wp2_with fail
  refine HF.out.mono ?_
  rintro e w2 ⟨M, D, rfl, hS, hD, hM, hb2⟩
  have HN : Hid (type_of% (implNewMaker w2)) := implNewMaker w2
  have hb3 := newMk_below w2
  have hz3 := newMk_size w2
  have h1 := (hb2.block w.heap.size (by omega)).trans hR1
  have hw1 : w.heap.size < w2.heap.size := (Array.getElem?_eq_some_iff.1 h1).1
  have h3 : (newMk w2).heap[w.heap.size]? = _ := (hb3.block w.heap.size hw1).trans h1
  have HEND : Hid (BookD es es.length D ∧ SMap (newMk w2) M D ∧ Below w.heap.size w (newMk w2)) := ⟨hD, hS.same (hb3.block M hS.lt), (hB1.trans (hb2.mono hB1.size)).trans (hb3.mono (by omega))⟩
  have hMw : w.heap.size + 1 ≤ M := by omega
  clear HF hS hD hb2 hR1 hB1 hM hzW h1
  go_wp2_with fail
  refine HN.out.mono ?_
  rintro e w3 ⟨rfl, rfl⟩
  generalize newMk w2 = w3 at *
  obtain ⟨_, hfz⟩ := block3B h3
  have hP := put_book h3 (x0 := .slice av es.length capv) (x1 := .map (some M)) (x2 := .pointer (some ⟨w2.heap.size + 3, 0, none⟩))
  obtain ⟨⟨c0, c1, c2⟩, _⟩ := block3B h3
  clear HN hb3 hz3
  go_wp2_with fail
  obtain ⟨r1, r2, r3⟩ := HEND.out
  refine ret_book rfl (block3B hP).1 ⟨M, D, _, rfl, r2.same ?_, r1, by omega, ((r3.setCell (Nat.le_refl _) _).setCell (Nat.le_refl _) _).setCell (Nat.le_refl _) _⟩
  rw [Below.heap_setCell _ _ _ _ (by simp; omega), Below.heap_setCell _ _ _ _ (by simp; omega), Below.heap_setCell _ _ _ _ (by simp; omega)]

end Go.Proofs.YtdlephiocfnkhaaDoor

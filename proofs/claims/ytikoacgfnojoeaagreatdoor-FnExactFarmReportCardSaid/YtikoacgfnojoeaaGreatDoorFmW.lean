/-
  The walks of the laws' own helpers szFarm, eqFarm and toFarm.
-/
import Derived.Test.YtikoacgfnojoeaaGreatDoorFmO
namespace Go.Proofs.YtikoacgfnojoeaaGreatDoor
open Go.RowKit

theorem srcAbove {w w3 : World} {B b n c : Nat} {es : List Src} (h : SrcAt w (.slice (some ⟨b, 0, none⟩) n c) es) (ha : Above B w w3) (hb : B ≤ b) : SrcAt w3 (.slice (some ⟨b, 0, none⟩) n c) es := by
  rcases h with h | ⟨b', off, cap, e, hc⟩
  · exact .inl h
  · simp only [Value.slice.injEq, Option.some.injEq, Addr.mk.injEq] at e
    obtain ⟨⟨rfl, rfl, _⟩, rfl, rfl⟩ := e
    have hk : ∀ i u, w.cell? ⟨b, i, none⟩ = some u → w3.cell? ⟨b, i, none⟩ = some u := fun i u hu => by
      have := ha.2 b hb (World.block_lt_of_cell? w _ hu)
      simpa only [World.cell?, this] using hu
    exact .inr ⟨b, 0, c, rfl, fun j hj => ⟨hk _ _ (hc j hj).1, hk _ _ (hc j hj).2⟩⟩
theorem itAbove {w w3 : World} {B b n c : Nat} {es : List Itm} (h : ItAt w (.slice (some ⟨b, 0, none⟩) n c) es) (ha : Above B w w3) (hb : B ≤ b) : ItAt w3 (.slice (some ⟨b, 0, none⟩) n c) es := by
  rcases h with h | ⟨b', off, cap, e, hc⟩
  · exact .inl h
  · simp only [Value.slice.injEq, Option.some.injEq, Addr.mk.injEq] at e
    obtain ⟨⟨rfl, rfl, _⟩, rfl, rfl⟩ := e
    have hk : ∀ i u, w.cell? ⟨b, i, none⟩ = some u → w3.cell? ⟨b, i, none⟩ = some u := fun i u hu => by
      have := ha.2 b hb (World.block_lt_of_cell? w _ hu)
      simpa only [World.cell?, this] using hu
    exact .inr ⟨b, 0, c, rfl, fun j hj => ⟨hk _ _ (hc j hj).1, hk _ _ (hc j hj).2.1, hk _ _ (hc j hj).2.2⟩⟩
theorem rowAbove {α : Type} {z : Nat} {f : α → List Value} {w w3 : World} {B b n c : Nat} {es : List α} (h : RowA z f w (.slice (some ⟨b, 0, none⟩) n c) es) (ha : Above B w w3) (hb : B ≤ b) : RowA z f w3 (.slice (some ⟨b, 0, none⟩) n c) es := by
  rcases h with h | ⟨b', off, cap, e, hl, hc⟩
  · exact .inl h
  · simp only [Value.slice.injEq, Option.some.injEq, Addr.mk.injEq] at e
    obtain ⟨⟨rfl, rfl, _⟩, rfl, rfl⟩ := e
    have hk : ∀ i u, w.cell? ⟨b, i, none⟩ = some u → w3.cell? ⟨b, i, none⟩ = some u := fun i u hu => by
      have := ha.2 b hb (World.block_lt_of_cell? w _ hu)
      simpa only [World.cell?, this] using hu
    exact .inr ⟨b, 0, c, rfl, Nat.lt_of_lt_of_le hl ha.1, fun j hj i u hu => hk _ _ (hc j hj i u hu)⟩

/-- two farms that hold the same -/
structure FarmV.same (e f : FarmV) : Prop where
  set : e.set = f.set
  wait : e.wait = f.wait
  up : e.up = f.up
  clock : e.clock = f.clock
  epoch : e.epoch = f.epoch
  leases : e.leases = f.leases
  done : SameRs e.done f.done
  net : e.net = f.net
  room : e.room = f.room
  items : e.items = f.items
theorem FarmV.same.symm {e f : FarmV} (h : e.same f) : f.same e := ⟨h.set.symm, h.wait.symm, h.up.symm, h.clock.symm, h.epoch.symm, h.leases.symm, h.done.symm, h.net.symm, h.room.symm, h.items.symm⟩
theorem FarmV.same.trans {e f g : FarmV} (h : e.same f) (k : f.same g) : e.same g := ⟨h.set.trans k.set, h.wait.trans k.wait, h.up.trans k.up, h.clock.trans k.clock, h.epoch.trans k.epoch, h.leases.trans k.leases, h.done.trans k.done, h.net.trans k.net, h.room.trans k.room, h.items.trans k.items⟩
/-- how much a farm holds -/
def farmB (n : Nat) (e : FarmV) : Nat := srsBulk e.set + e.up.length + bulkA LeS e.leases + bulkA (resB n) e.done + bulkA PaS e.net + itsBulk e.items

set_option maxHeartbeats 800000 in
set_option maxRecDepth 100000 in
theorem lawsSzStoreL (left room : Int) (v : Value) (es : List Itm) (w : World) (hrow : ItAt w v es) (hkl : es.length ≤ maxLen) (hsz : ∀ e ∈ es, e.1.size ≤ maxLen ∧ e.2.1.size ≤ maxLen ∧ e.2.2.size ≤ maxLen) (h0 : 0 ≤ left) (h1 : left ≤ 1048576) :
    Calls Tryz.prog 14 #[.agg #[.int .i64 room, v], .int .i64 left] w fun e w' => e = .returned (.int .i64 (leftA (itsBulk es) left)) ∧ Below w.heap.size w w' := by
  obtain ⟨av, capv, rfl, _⟩ := itOpen hrow
  have hB1 : Below w.heap.size w (w.alloc (.cells #[.int .i64 room, .slice av es.length capv] 29)) := (Below.refl _ _).alloc (Nat.le_refl _) _
  have HC : Hid (∀ wx, Below w.heap.size w wx → Calls Tryz.prog 35 #[.slice av es.length capv, .int .i64 left] wx fun e w' => e = .returned (.int .i64 (leftA (itsBulk es) left)) ∧ Below wx.heap.size wx w') := fun wx hx => lawsSzIts _ es left wx (hrow.below hx) hkl hsz h0 h1
  clear hrow hsz
  by_cases hbk : (itsBulk es : Int) ≤ left
  · rw [leftA_yes hbk] at HC ⊢
    generalize itsBulk es = B at *
    have hn : ¬ (left - (B : Int) < 0) := by omega
    go_enter Tryz.func14, Tryz.ntmps14
    go_wp2_with fail
    refine (HC.out _ hB1).mono ?_
    rintro e w2 ⟨rfl, hb2⟩
    have hw2 := hB1.trans (hb2.mono hB1.size)
    go_wp2_with fail
    go_ret
    exact ⟨rfl, hw2⟩
  · rw [leftA_no hbk] at HC ⊢
    go_enter Tryz.func14, Tryz.ntmps14
    go_wp2_with fail
    refine (HC.out _ hB1).mono ?_
    rintro e w2 ⟨rfl, hb2⟩
    have hw2 := hB1.trans (hb2.mono hB1.size)
    go_wp2_with fail
    go_ret
    exact ⟨rfl, hw2⟩

set_option maxHeartbeats 3200000 in
set_option maxRecDepth 100000 in
theorem lawsSzFarm (n : Nat) (e : FarmV) (w : World) (h : e.at w n) (hf : e.few) :
    Calls Tryz.prog 4 #[.agg e.cells.toArray, .int .i64 1048576] w fun r w' => r = .returned (.int .i64 (leftA (farmB n e) 1048576)) ∧ Below w.heap.size w w' := by
  obtain ⟨vS, set, wait, vU, up, clock, epoch, vL, leases, vR, done, vN, net, room, vI, items⟩ := e
  obtain ⟨hS, hU, hL, hR, hN, hI⟩ := id h
  simp only at hS hU hL hR hN hI
  obtain ⟨aS, cS, rfl, _⟩ := srcOpen hS
  obtain ⟨aU, cU, rfl, _⟩ := rowA_open hU
  obtain ⟨aL, cL, rfl, _⟩ := rowA_open hL
  obtain ⟨aR, cR, rfl, _⟩ := rowA_open hR.1
  obtain ⟨aN, cN, rfl, _⟩ := rowA_open hN
  obtain ⟨aI, cI, rfl, _⟩ := itOpen hI
  obtain ⟨RR, hRR⟩ : ∃ RR, RR = leftA (farmB n ⟨.slice aS set.length cS, set, wait, .slice aU up.length cU, up, clock, epoch, .slice aL leases.length cL, leases, .slice aR done.length cR, done, .slice aN net.length cN, net, room, .slice aI items.length cI, items⟩) 1048576 := ⟨_, rfl⟩
  rw [← hRR]
  unfold leftA farmB at hRR
  simp only at hRR
  have HAN : Hid (type_of% hRR) := hRR
  show Calls Tryz.prog 4 #[.agg #[.slice aS set.length cS, .int .i64 wait, .slice aU up.length cU, .int .i64 clock, .int .i64 epoch, .slice aL leases.length cL, .slice aR done.length cR, .slice aN net.length cN, .int .i64 room, .slice aI items.length cI], .int .i64 1048576] w _
  have hb1 : Below w.heap.size w (w.alloc (.cells #[.slice aS set.length cS, .int .i64 wait, .slice aU up.length cU, .int .i64 clock, .int .i64 epoch, .slice aL leases.length cL, .slice aR done.length cR, .slice aN net.length cN, .int .i64 room, .slice aI items.length cI] 31)) := (Below.refl _ _).alloc (Nat.le_refl _) _
  have hrow : (w.alloc (.cells #[.slice aS set.length cS, .int .i64 wait, .slice aU up.length cU, .int .i64 clock, .int .i64 epoch, .slice aL leases.length cL, .slice aR done.length cR, .slice aN net.length cN, .int .i64 room, .slice aI items.length cI] 31)).heap[w.heap.size]? = some (.cells #[.slice aS set.length cS, .int .i64 wait, .slice aU up.length cU, .int .i64 clock, .int .i64 epoch, .slice aL leases.length cL, .slice aR done.length cR, .slice aN net.length cN, .int .i64 room, .slice aI items.length cI] 31 (0, 0)) := (MapKept.heap_alloc w _).1
  have hz1 : (w.alloc (.cells #[.slice aS set.length cS, .int .i64 wait, .slice aU up.length cU, .int .i64 clock, .int .i64 epoch, .slice aL leases.length cL, .slice aR done.length cR, .slice aN net.length cN, .int .i64 room, .slice aI items.length cI] 31)).heap.size = w.heap.size + 1 := by simp
  have HS : Hid (∀ (lf : Int) (wx : World), 0 ≤ lf → lf ≤ 1048576 → Below w.heap.size w wx → Calls Tryz.prog 9 #[.slice aS set.length cS, .int .i64 lf] wx fun e w' => e = .returned (.int .i64 (leftA (srsBulk set) lf)) ∧ Below wx.heap.size wx w') := fun lf wx h0 h1 hx => lawsSzSrs _ set lf wx (h.set.below hx) hf.set.1 hf.set.2 h0 h1
  have HU : Hid (∀ (lf : Int) (wx : World), 0 ≤ lf → lf ≤ 1048576 → Below w.heap.size w wx → Calls Tryz.prog 10 #[.slice aU up.length cU, .int .i64 lf] wx fun e w' => e = .returned (.int .i64 (leftA (up.length) lf)) ∧ Below wx.heap.size wx w') := fun lf wx h0 h1 hx => lawsSzBos _ up lf wx (h.up.below hx) hf.up h0 h1
  have HL : Hid (∀ (lf : Int) (wx : World), 0 ≤ lf → lf ≤ 1048576 → Below w.heap.size w wx → Calls Tryz.prog 11 #[.slice aL leases.length cL, .int .i64 lf] wx fun e w' => e = .returned (.int .i64 (leftA (bulkA LeS leases) lf)) ∧ Below wx.heap.size wx w') := fun lf wx h0 h1 hx => lawsSzLes _ leases lf wx (h.leases.below hx) hf.leases.1 hf.leases.2 h0 h1
  have HR : Hid (∀ (lf : Int) (wx : World), 0 ≤ lf → lf ≤ 1048576 → Below w.heap.size w wx → Calls Tryz.prog 12 #[.slice aR done.length cR, .int .i64 lf] wx fun e w' => e = .returned (.int .i64 (leftA (bulkA (resB n) done) lf)) ∧ Below wx.heap.size wx w') := fun lf wx h0 h1 hx => lawsSzRess n _ done lf wx (h.done.below hx) hf.done.1 hf.done.2 h0 h1
  have HN : Hid (∀ (lf : Int) (wx : World), 0 ≤ lf → lf ≤ 1048576 → Below w.heap.size w wx → Calls Tryz.prog 13 #[.slice aN net.length cN, .int .i64 lf] wx fun e w' => e = .returned (.int .i64 (leftA (bulkA PaS net) lf)) ∧ Below wx.heap.size wx w') := fun lf wx h0 h1 hx => lawsSzPas _ net lf wx (h.net.below hx) hf.net.1 hf.net.2 h0 h1
  have HI : Hid (∀ (lf : Int) (wx : World), 0 ≤ lf → lf ≤ 1048576 → Below w.heap.size w wx → Calls Tryz.prog 14 #[.agg #[.int .i64 room, .slice aI items.length cI], .int .i64 lf] wx fun e w' => e = .returned (.int .i64 (leftA (itsBulk items) lf)) ∧ Below wx.heap.size wx w') := fun lf wx h0 h1 hx => lawsSzStoreL lf room _ items wx (h.items.below hx) hf.items.1 hf.items.2 h0 h1
  clear hRR hS hU hL hR hN hI h hf
  generalize srsBulk set = bS at *
  obtain ⟨bU, hbU⟩ : ∃ bU, bU = up.length := ⟨_, rfl⟩
  rw [← hbU] at HAN
  have HU2 : Hid (∀ (lf : Int) (wx : World), 0 ≤ lf → lf ≤ 1048576 → Below w.heap.size w wx → Calls Tryz.prog 10 #[.slice aU up.length cU, .int .i64 lf] wx fun e w' => e = .returned (.int .i64 (leftA bU lf)) ∧ Below wx.heap.size wx w') := by rw [hbU]; exact HU.out
  clear hbU HU
  generalize bulkA LeS leases = bL at *
  generalize bulkA (resB n) done = bR at *
  generalize bulkA PaS net = bN at *
  generalize itsBulk items = bI at *
  obtain ⟨W1, hW1⟩ : ∃ W1, W1 = w.alloc (.cells #[.slice aS set.length cS, .int .i64 wait, .slice aU up.length cU, .int .i64 clock, .int .i64 epoch, .slice aL leases.length cL, .slice aR done.length cR, .slice aN net.length cN, .int .i64 room, .slice aI items.length cI] 31) := ⟨_, rfl⟩
  rw [← hW1] at hb1 hrow hz1
  have HB : Hid (∀ X, Below W1.heap.size W1 X → X.heap[w.heap.size]? = some (.cells #[.slice aS set.length cS, .int .i64 wait, .slice aU up.length cU, .int .i64 clock, .int .i64 epoch, .slice aL leases.length cL, .slice aR done.length cR, .slice aN net.length cN, .int .i64 room, .slice aI items.length cI] 31 (0, 0)) ∧ Below w.heap.size w X) := fun X hX => ⟨(hX.block _ (by omega)).trans hrow, hb1.trans (hX.mono (by omega))⟩
  have hX1 : Below W1.heap.size W1 W1 := Below.refl _ _
  by_cases d0 : (bS : Int) ≤ (1048576 : Int)
  · obtain ⟨l1, hl1⟩ : ∃ l1 : Int, l1 = (1048576 : Int) - bS := ⟨_, rfl⟩
    have HC0 : Hid (∀ wx, Below w.heap.size w wx → Calls Tryz.prog 9 #[.slice aS set.length cS, .int .i64 1048576] wx fun e w' => e = .returned (.int .i64 l1) ∧ Below wx.heap.size wx w') := fun wx hx => by
      have := HS.out (1048576 : Int) wx (by omega) (by omega) hx
      rw [leftA_yes d0, ← hl1] at this
      exact this
    have n0 : ¬ (l1 < 0) := by omega
    have m0 : 0 ≤ l1 ∧ l1 ≤ 1048576 := by omega
    have HL0 : Hid (l1 = (1048576 : Int) - bS) := hl1
    clear hl1
    go_enter Tryz.func4, Tryz.ntmps4
    go_wp2_with fail
    rw [← hW1]
    refine (HC0.out _ (HB.out _ hX1).2).mono ?_
    rintro e w2 ⟨rfl, hb2⟩
    have hX2 : Below W1.heap.size W1 w2 := hX1.trans (hb2.mono hX1.size)
    clear HC0 hb2 hW1
    by_cases d1 : (bU : Int) ≤ l1
    · obtain ⟨l2, hl2⟩ : ∃ l2 : Int, l2 = l1 - bU := ⟨_, rfl⟩
      have HC1 : Hid (∀ wx, Below w.heap.size w wx → Calls Tryz.prog 10 #[.slice aU up.length cU, .int .i64 l1] wx fun e w' => e = .returned (.int .i64 l2) ∧ Below wx.heap.size wx w') := fun wx hx => by
        have := HU2.out l1 wx (by omega) (by omega) hx
        rw [leftA_yes d1, ← hl2] at this
        exact this
      have n1 : ¬ (l2 < 0) := by omega
      have m1 : 0 ≤ l2 ∧ l2 ≤ 1048576 := by omega
      have HL1 : Hid (l2 = l1 - bU) := hl2
      clear hl2
      have q1 : w2.cell? ⟨w.heap.size, 2, none⟩ = some (.slice aU up.length cU) := by rw [cell_of_row _ _ 2 _ _ (0, 0) (HB.out _ hX2).1]; rfl
      go_wp2_with fail
      refine (HC1.out _ (HB.out _ hX2).2).mono ?_
      rintro e w3 ⟨rfl, hb3⟩
      have hX3 : Below W1.heap.size W1 w3 := hX2.trans (hb3.mono hX2.size)
      clear HC1 hb3 q1
      by_cases d2 : (bL : Int) ≤ l2
      · obtain ⟨l3, hl3⟩ : ∃ l3 : Int, l3 = l2 - bL := ⟨_, rfl⟩
        have HC2 : Hid (∀ wx, Below w.heap.size w wx → Calls Tryz.prog 11 #[.slice aL leases.length cL, .int .i64 l2] wx fun e w' => e = .returned (.int .i64 l3) ∧ Below wx.heap.size wx w') := fun wx hx => by
          have := HL.out l2 wx (by omega) (by omega) hx
          rw [leftA_yes d2, ← hl3] at this
          exact this
        have n2 : ¬ (l3 < 0) := by omega
        have m2 : 0 ≤ l3 ∧ l3 ≤ 1048576 := by omega
        have HL2 : Hid (l3 = l2 - bL) := hl3
        clear hl3
        have q2 : w3.cell? ⟨w.heap.size, 5, none⟩ = some (.slice aL leases.length cL) := by rw [cell_of_row _ _ 5 _ _ (0, 0) (HB.out _ hX3).1]; rfl
        go_wp2_with fail
        refine (HC2.out _ (HB.out _ hX3).2).mono ?_
        rintro e w4 ⟨rfl, hb4⟩
        have hX4 : Below W1.heap.size W1 w4 := hX3.trans (hb4.mono hX3.size)
        clear HC2 hb4 q2
        by_cases d3 : (bR : Int) ≤ l3
        · obtain ⟨l4, hl4⟩ : ∃ l4 : Int, l4 = l3 - bR := ⟨_, rfl⟩
          have HC3 : Hid (∀ wx, Below w.heap.size w wx → Calls Tryz.prog 12 #[.slice aR done.length cR, .int .i64 l3] wx fun e w' => e = .returned (.int .i64 l4) ∧ Below wx.heap.size wx w') := fun wx hx => by
            have := HR.out l3 wx (by omega) (by omega) hx
            rw [leftA_yes d3, ← hl4] at this
            exact this
          have n3 : ¬ (l4 < 0) := by omega
          have m3 : 0 ≤ l4 ∧ l4 ≤ 1048576 := by omega
          have HL3 : Hid (l4 = l3 - bR) := hl4
          clear hl4
          have q3 : w4.cell? ⟨w.heap.size, 6, none⟩ = some (.slice aR done.length cR) := by rw [cell_of_row _ _ 6 _ _ (0, 0) (HB.out _ hX4).1]; rfl
          go_wp2_with fail
          refine (HC3.out _ (HB.out _ hX4).2).mono ?_
          rintro e w5 ⟨rfl, hb5⟩
          have hX5 : Below W1.heap.size W1 w5 := hX4.trans (hb5.mono hX4.size)
          clear HC3 hb5 q3
          by_cases d4 : (bN : Int) ≤ l4
          · obtain ⟨l5, hl5⟩ : ∃ l5 : Int, l5 = l4 - bN := ⟨_, rfl⟩
            have HC4 : Hid (∀ wx, Below w.heap.size w wx → Calls Tryz.prog 13 #[.slice aN net.length cN, .int .i64 l4] wx fun e w' => e = .returned (.int .i64 l5) ∧ Below wx.heap.size wx w') := fun wx hx => by
              have := HN.out l4 wx (by omega) (by omega) hx
              rw [leftA_yes d4, ← hl5] at this
              exact this
            have n4 : ¬ (l5 < 0) := by omega
            have m4 : 0 ≤ l5 ∧ l5 ≤ 1048576 := by omega
            have HL4 : Hid (l5 = l4 - bN) := hl5
            clear hl5
            have q4 : w5.cell? ⟨w.heap.size, 7, none⟩ = some (.slice aN net.length cN) := by rw [cell_of_row _ _ 7 _ _ (0, 0) (HB.out _ hX5).1]; rfl
            go_wp2_with fail
            refine (HC4.out _ (HB.out _ hX5).2).mono ?_
            rintro e w6 ⟨rfl, hb6⟩
            have hX6 : Below W1.heap.size W1 w6 := hX5.trans (hb6.mono hX5.size)
            clear HC4 hb6 q4
            by_cases d5 : (bI : Int) ≤ l5
            · obtain ⟨l6, hl6⟩ : ∃ l6 : Int, l6 = l5 - bI := ⟨_, rfl⟩
              have HC5 : Hid (∀ wx, Below w.heap.size w wx → Calls Tryz.prog 14 #[.agg #[.int .i64 room, .slice aI items.length cI], .int .i64 l5] wx fun e w' => e = .returned (.int .i64 l6) ∧ Below wx.heap.size wx w') := fun wx hx => by
                have := HI.out l5 wx (by omega) (by omega) hx
                rw [leftA_yes d5, ← hl6] at this
                exact this
              have n5 : ¬ (l6 < 0) := by omega
              have m5 : 0 ≤ l6 ∧ l6 ≤ 1048576 := by omega
              have HL5 : Hid (l6 = l5 - bI) := hl6
              clear hl6
              have q8 : w6.cell? ⟨w.heap.size, 8, none⟩ = some (.int .i64 room) := by rw [cell_of_row _ _ 8 _ _ (0, 0) (HB.out _ hX6).1]; rfl
              have q9 : w6.cell? ⟨w.heap.size, 9, none⟩ = some (.slice aI items.length cI) := by rw [cell_of_row _ _ 9 _ _ (0, 0) (HB.out _ hX6).1]; rfl
              go_wp2_with fail
              refine (HC5.out _ (HB.out _ hX6).2).mono ?_
              rintro e w7 ⟨rfl, hb7⟩
              have hX7 : Below W1.heap.size W1 w7 := hX6.trans (hb7.mono hX6.size)
              clear HC5 hb7 q8 q9
              have HN : Hid (RR = l6) := by
                show _ = _
                have := HL0.out
                have := HL1.out
                have := HL2.out
                have := HL3.out
                have := HL4.out
                have := HL5.out
                rw [HAN.out, if_pos (by omega)]
                omega
              go_wp2_with fail
              go_ret
              exact ⟨by first | (rw [HN.out]; done) | (rw [HN.out]; rfl), (HB.out _ hX7).2⟩
            · have HC5 : Hid (∀ wx, Below w.heap.size w wx → Calls Tryz.prog 14 #[.agg #[.int .i64 room, .slice aI items.length cI], .int .i64 l5] wx fun e w' => e = .returned (.int .i64 (-1)) ∧ Below wx.heap.size wx w') := fun wx hx => by
                have := HI.out l5 wx (by omega) (by omega) hx
                rw [leftA_no d5] at this
                exact this
              have HN : Hid (RR = -1) := by
                show _ = _
                have := HL0.out
                have := HL1.out
                have := HL2.out
                have := HL3.out
                have := HL4.out
                rw [HAN.out, if_neg (by omega)]
              have q8 : w6.cell? ⟨w.heap.size, 8, none⟩ = some (.int .i64 room) := by rw [cell_of_row _ _ 8 _ _ (0, 0) (HB.out _ hX6).1]; rfl
              have q9 : w6.cell? ⟨w.heap.size, 9, none⟩ = some (.slice aI items.length cI) := by rw [cell_of_row _ _ 9 _ _ (0, 0) (HB.out _ hX6).1]; rfl
              go_wp2_with fail
              refine (HC5.out _ (HB.out _ hX6).2).mono ?_
              rintro e wz ⟨rfl, hbz⟩
              have hXz : Below W1.heap.size W1 wz := hX6.trans (hbz.mono hX6.size)
              clear hbz HC5 q8 q9
              go_wp2_with fail
              go_ret
              exact ⟨by first | (rw [HN.out]; done) | (rw [HN.out]; rfl), (HB.out _ hXz).2⟩
          · have HC4 : Hid (∀ wx, Below w.heap.size w wx → Calls Tryz.prog 13 #[.slice aN net.length cN, .int .i64 l4] wx fun e w' => e = .returned (.int .i64 (-1)) ∧ Below wx.heap.size wx w') := fun wx hx => by
              have := HN.out l4 wx (by omega) (by omega) hx
              rw [leftA_no d4] at this
              exact this
            have HN : Hid (RR = -1) := by
              show _ = _
              have := HL0.out
              have := HL1.out
              have := HL2.out
              have := HL3.out
              rw [HAN.out, if_neg (by omega)]
            have q4 : w5.cell? ⟨w.heap.size, 7, none⟩ = some (.slice aN net.length cN) := by rw [cell_of_row _ _ 7 _ _ (0, 0) (HB.out _ hX5).1]; rfl
            go_wp2_with fail
            refine (HC4.out _ (HB.out _ hX5).2).mono ?_
            rintro e wz ⟨rfl, hbz⟩
            have hXz : Below W1.heap.size W1 wz := hX5.trans (hbz.mono hX5.size)
            clear hbz HC4 q4
            go_wp2_with fail
            go_ret
            exact ⟨by first | (rw [HN.out]; done) | (rw [HN.out]; rfl), (HB.out _ hXz).2⟩
        · have HC3 : Hid (∀ wx, Below w.heap.size w wx → Calls Tryz.prog 12 #[.slice aR done.length cR, .int .i64 l3] wx fun e w' => e = .returned (.int .i64 (-1)) ∧ Below wx.heap.size wx w') := fun wx hx => by
            have := HR.out l3 wx (by omega) (by omega) hx
            rw [leftA_no d3] at this
            exact this
          have HN : Hid (RR = -1) := by
            show _ = _
            have := HL0.out
            have := HL1.out
            have := HL2.out
            rw [HAN.out, if_neg (by omega)]
          have q3 : w4.cell? ⟨w.heap.size, 6, none⟩ = some (.slice aR done.length cR) := by rw [cell_of_row _ _ 6 _ _ (0, 0) (HB.out _ hX4).1]; rfl
          go_wp2_with fail
          refine (HC3.out _ (HB.out _ hX4).2).mono ?_
          rintro e wz ⟨rfl, hbz⟩
          have hXz : Below W1.heap.size W1 wz := hX4.trans (hbz.mono hX4.size)
          clear hbz HC3 q3
          go_wp2_with fail
          go_ret
          exact ⟨by first | (rw [HN.out]; done) | (rw [HN.out]; rfl), (HB.out _ hXz).2⟩
      · have HC2 : Hid (∀ wx, Below w.heap.size w wx → Calls Tryz.prog 11 #[.slice aL leases.length cL, .int .i64 l2] wx fun e w' => e = .returned (.int .i64 (-1)) ∧ Below wx.heap.size wx w') := fun wx hx => by
          have := HL.out l2 wx (by omega) (by omega) hx
          rw [leftA_no d2] at this
          exact this
        have HN : Hid (RR = -1) := by
          show _ = _
          have := HL0.out
          have := HL1.out
          rw [HAN.out, if_neg (by omega)]
        have q2 : w3.cell? ⟨w.heap.size, 5, none⟩ = some (.slice aL leases.length cL) := by rw [cell_of_row _ _ 5 _ _ (0, 0) (HB.out _ hX3).1]; rfl
        go_wp2_with fail
        refine (HC2.out _ (HB.out _ hX3).2).mono ?_
        rintro e wz ⟨rfl, hbz⟩
        have hXz : Below W1.heap.size W1 wz := hX3.trans (hbz.mono hX3.size)
        clear hbz HC2 q2
        go_wp2_with fail
        go_ret
        exact ⟨by first | (rw [HN.out]; done) | (rw [HN.out]; rfl), (HB.out _ hXz).2⟩
    · have HC1 : Hid (∀ wx, Below w.heap.size w wx → Calls Tryz.prog 10 #[.slice aU up.length cU, .int .i64 l1] wx fun e w' => e = .returned (.int .i64 (-1)) ∧ Below wx.heap.size wx w') := fun wx hx => by
        have := HU2.out l1 wx (by omega) (by omega) hx
        rw [leftA_no d1] at this
        exact this
      have HN : Hid (RR = -1) := by
        show _ = _
        have := HL0.out
        rw [HAN.out, if_neg (by omega)]
      have q1 : w2.cell? ⟨w.heap.size, 2, none⟩ = some (.slice aU up.length cU) := by rw [cell_of_row _ _ 2 _ _ (0, 0) (HB.out _ hX2).1]; rfl
      go_wp2_with fail
      refine (HC1.out _ (HB.out _ hX2).2).mono ?_
      rintro e wz ⟨rfl, hbz⟩
      have hXz : Below W1.heap.size W1 wz := hX2.trans (hbz.mono hX2.size)
      clear hbz HC1 q1
      go_wp2_with fail
      go_ret
      exact ⟨by first | (rw [HN.out]; done) | (rw [HN.out]; rfl), (HB.out _ hXz).2⟩
  · have HC0 : Hid (∀ wx, Below w.heap.size w wx → Calls Tryz.prog 9 #[.slice aS set.length cS, .int .i64 1048576] wx fun e w' => e = .returned (.int .i64 (-1)) ∧ Below wx.heap.size wx w') := fun wx hx => by
      have := HS.out (1048576 : Int) wx (by omega) (by omega) hx
      rw [leftA_no d0] at this
      exact this
    have HN : Hid (RR = -1) := by
      show _ = _
      rw [HAN.out, if_neg (by omega)]
    go_enter Tryz.func4, Tryz.ntmps4
    go_wp2_with fail
    rw [← hW1]
    refine (HC0.out _ (HB.out _ hX1).2).mono ?_
    rintro e wz ⟨rfl, hbz⟩
    have hXz : Below W1.heap.size W1 wz := hX1.trans (hbz.mono hX1.size)
    clear hbz HC0 hW1
    go_wp2_with fail
    go_ret
    exact ⟨by first | (rw [HN.out]; done) | (rw [HN.out]; rfl), (HB.out _ hXz).2⟩

theorem farm_parts {n : Nat} {e : FarmV} (h : farmB n e ≤ 1048576) : e.set.length ≤ 1048576 ∧ e.up.length ≤ 1048576 ∧ e.leases.length ≤ 1048576 ∧ e.done.length ≤ 1048576 ∧ e.net.length ≤ 1048576 ∧ e.items.length ≤ 1048576 ∧ (∀ r ∈ e.done, resB n r ≤ 1048576) ∧ bulkA (resB n) e.done ≤ 1048576 ∧ srsBulk e.set ≤ 1048576 := by
  have h1 : e.set.length ≤ srsBulk e.set := by unfold srsBulk; omega
  have h2 : e.leases.length ≤ bulkA LeS e.leases := by unfold bulkA; omega
  have h3 : e.done.length ≤ bulkA (resB n) e.done := by unfold bulkA; omega
  have h4 : e.net.length ≤ bulkA PaS e.net := by unfold bulkA; omega
  have h5 : e.items.length ≤ itsBulk e.items := by unfold itsBulk; omega
  unfold farmB at h
  refine ⟨by omega, by omega, by omega, by omega, by omega, by omega, fun r hr => ?_, by omega, by omega⟩
  obtain ⟨j, hj, rfl⟩ := List.getElem_of_mem hr
  have := bulkA_one (resB n) e.done j hj
  omega

set_option maxHeartbeats 3200000 in
set_option maxRecDepth 100000 in
theorem lawsEqFarm (n : Nat) (e f : FarmV) (w : World) (h : e.at w n) (g : f.at w n) (hs : e.same f) (hb : farmB n e ≤ 1048576) :
    Calls Tryz.prog 8 #[.agg e.cells.toArray, .agg f.cells.toArray] w fun r w' => r = .returned (.bool true) ∧ Below w.heap.size w w' := by
  obtain ⟨p1, p2, p3, p4, p5, p6, hrs, _, _⟩ := farm_parts hb
  obtain ⟨vS, set, wait, vU, up, clock, epoch, vL, leases, vR, done, vN, net, room, vI, items⟩ := e
  obtain ⟨uS, set2, wait2, uU, up2, clock2, epoch2, uL, leases2, uR, done2, uN, net2, room2, uI, items2⟩ := f
  obtain ⟨rfl, rfl, rfl, rfl, rfl, rfl, sR, rfl, rfl, rfl⟩ := hs
  simp only at p1 p2 p3 p4 p5 p6 hrs sR
  obtain ⟨hS, hU, hL, hR, hN, hI⟩ := h
  obtain ⟨gS, gU, gL, gR, gN, gI⟩ := g
  simp only at hS hU hL hR hN hI gS gU gL gR gN gI
  obtain ⟨aS, cS, rfl, _⟩ := srcOpen hS
  obtain ⟨aU, cU, rfl, _⟩ := rowA_open hU
  obtain ⟨aL, cL, rfl, _⟩ := rowA_open hL
  obtain ⟨aR, cR, rfl, _⟩ := rowA_open hR.1
  obtain ⟨aN, cN, rfl, _⟩ := rowA_open hN
  obtain ⟨aI, cI, rfl, _⟩ := itOpen hI
  obtain ⟨bS, fS, rfl, _⟩ := srcOpen gS
  obtain ⟨bU, fU, rfl, _⟩ := rowA_open gU
  obtain ⟨bL, fL, rfl, _⟩ := rowA_open gL
  obtain ⟨bR, fR, rfl, _⟩ := rowA_open gR.1
  obtain ⟨bN, fN, rfl, _⟩ := rowA_open gN
  obtain ⟨bI, fI, rfl, _⟩ := itOpen gI
  rw [← sR.1] at gR ⊢
  show Calls Tryz.prog 8 #[.agg #[.slice aS set.length cS, .int .i64 wait, .slice aU up.length cU, .int .i64 clock, .int .i64 epoch, .slice aL leases.length cL, .slice aR done.length cR, .slice aN net.length cN, .int .i64 room, .slice aI items.length cI], .agg #[.slice bS set.length fS, .int .i64 wait, .slice bU up.length fU, .int .i64 clock, .int .i64 epoch, .slice bL leases.length fL, .slice bR done.length fR, .slice bN net.length fN, .int .i64 room, .slice bI items.length fI]] w _
  have hb1 : Below w.heap.size w ((w.alloc (.cells #[.slice aS set.length cS, .int .i64 wait, .slice aU up.length cU, .int .i64 clock, .int .i64 epoch, .slice aL leases.length cL, .slice aR done.length cR, .slice aN net.length cN, .int .i64 room, .slice aI items.length cI] 43)).alloc (.cells #[.slice bS set.length fS, .int .i64 wait, .slice bU up.length fU, .int .i64 clock, .int .i64 epoch, .slice bL leases.length fL, .slice bR done.length fR, .slice bN net.length fN, .int .i64 room, .slice bI items.length fI] 43)) := ((Below.refl _ _).alloc (Nat.le_refl _) _).alloc (by simp) _
  have hr1 : ((w.alloc (.cells #[.slice aS set.length cS, .int .i64 wait, .slice aU up.length cU, .int .i64 clock, .int .i64 epoch, .slice aL leases.length cL, .slice aR done.length cR, .slice aN net.length cN, .int .i64 room, .slice aI items.length cI] 43)).alloc (.cells #[.slice bS set.length fS, .int .i64 wait, .slice bU up.length fU, .int .i64 clock, .int .i64 epoch, .slice bL leases.length fL, .slice bR done.length fR, .slice bN net.length fN, .int .i64 room, .slice bI items.length fI] 43)).heap[w.heap.size]? = some (.cells #[.slice aS set.length cS, .int .i64 wait, .slice aU up.length cU, .int .i64 clock, .int .i64 epoch, .slice aL leases.length cL, .slice aR done.length cR, .slice aN net.length cN, .int .i64 room, .slice aI items.length cI] 43 (0, 0)) := ((MapKept.heap_alloc (w.alloc _) _).2 _ (by simp)).trans (MapKept.heap_alloc w _).1
  have hr2 : ((w.alloc (.cells #[.slice aS set.length cS, .int .i64 wait, .slice aU up.length cU, .int .i64 clock, .int .i64 epoch, .slice aL leases.length cL, .slice aR done.length cR, .slice aN net.length cN, .int .i64 room, .slice aI items.length cI] 43)).alloc (.cells #[.slice bS set.length fS, .int .i64 wait, .slice bU up.length fU, .int .i64 clock, .int .i64 epoch, .slice bL leases.length fL, .slice bR done.length fR, .slice bN net.length fN, .int .i64 room, .slice bI items.length fI] 43)).heap[w.heap.size + 1]? = some (.cells #[.slice bS set.length fS, .int .i64 wait, .slice bU up.length fU, .int .i64 clock, .int .i64 epoch, .slice bL leases.length fL, .slice bR done.length fR, .slice bN net.length fN, .int .i64 room, .slice bI items.length fI] 43 (0, 0)) := by
    have := (MapKept.heap_alloc (w.alloc (.cells #[.slice aS set.length cS, .int .i64 wait, .slice aU up.length cU, .int .i64 clock, .int .i64 epoch, .slice aL leases.length cL, .slice aR done.length cR, .slice aN net.length cN, .int .i64 room, .slice aI items.length cI] 43)) (.cells #[.slice bS set.length fS, .int .i64 wait, .slice bU up.length fU, .int .i64 clock, .int .i64 epoch, .slice bL leases.length fL, .slice bR done.length fR, .slice bN net.length fN, .int .i64 room, .slice bI items.length fI] 43)).1
    simpa using this
  have hz1 : ((w.alloc (.cells #[.slice aS set.length cS, .int .i64 wait, .slice aU up.length cU, .int .i64 clock, .int .i64 epoch, .slice aL leases.length cL, .slice aR done.length cR, .slice aN net.length cN, .int .i64 room, .slice aI items.length cI] 43)).alloc (.cells #[.slice bS set.length fS, .int .i64 wait, .slice bU up.length fU, .int .i64 clock, .int .i64 epoch, .slice bL leases.length fL, .slice bR done.length fR, .slice bN net.length fN, .int .i64 room, .slice bI items.length fI] 43)).heap.size = w.heap.size + 1 + 1 := by simp
  have HS : Hid (∀ wx, Below w.heap.size w wx → Calls Tryz.prog 25 #[.slice aS set.length cS, .slice bS set.length fS] wx fun e w' => e = .returned (.bool true) ∧ Below wx.heap.size wx w') := fun wx hx => lawsEqSrs _ _ set wx (hS.below hx) (gS.below hx) (by omega)
  have HU : Hid (∀ wx, Below w.heap.size w wx → Calls Tryz.prog 26 #[.slice aU up.length cU, .slice bU up.length fU] wx fun e w' => e = .returned (.bool true) ∧ Below wx.heap.size wx w') := fun wx hx => lawsEqBos _ _ up wx (hU.below hx) (gU.below hx) (by omega)
  have HL : Hid (∀ wx, Below w.heap.size w wx → Calls Tryz.prog 27 #[.slice aL leases.length cL, .slice bL leases.length fL] wx fun e w' => e = .returned (.bool true) ∧ Below wx.heap.size wx w') := fun wx hx => lawsEqLes _ _ leases wx (hL.below hx) (gL.below hx) (by omega)
  have HR : Hid (∀ wx, Below w.heap.size w wx → Calls Tryz.prog 28 #[.slice aR done.length cR, .slice bR done.length fR] wx fun e w' => e = .returned (.bool true) ∧ Below wx.heap.size wx w') := fun wx hx => lawsEqRess n _ _ done done2 wx (hR.below hx) (gR.below hx) sR (by omega) hrs
  have HN : Hid (∀ wx, Below w.heap.size w wx → Calls Tryz.prog 29 #[.slice aN net.length cN, .slice bN net.length fN] wx fun e w' => e = .returned (.bool true) ∧ Below wx.heap.size wx w') := fun wx hx => lawsEqPas _ _ net wx (hN.below hx) (gN.below hx) (by omega)
  have HI : Hid (∀ wx, Below w.heap.size w wx → Calls Tryz.prog 30 #[.agg #[.int .i64 room, .slice aI items.length cI], .agg #[.int .i64 room, .slice bI items.length fI]] wx fun e w' => e = .returned (.bool true) ∧ Below wx.heap.size wx w') := fun wx hx => lawsEqStore room _ _ items wx (hI.below hx) (gI.below hx) (by omega)
  clear hS hU hL hR hN hI gS gU gL gR gN gI sR hrs hb
  obtain ⟨W1, hW1⟩ : ∃ W1, W1 = (w.alloc (.cells #[.slice aS set.length cS, .int .i64 wait, .slice aU up.length cU, .int .i64 clock, .int .i64 epoch, .slice aL leases.length cL, .slice aR done.length cR, .slice aN net.length cN, .int .i64 room, .slice aI items.length cI] 43)).alloc (.cells #[.slice bS set.length fS, .int .i64 wait, .slice bU up.length fU, .int .i64 clock, .int .i64 epoch, .slice bL leases.length fL, .slice bR done.length fR, .slice bN net.length fN, .int .i64 room, .slice bI items.length fI] 43) := ⟨_, rfl⟩
  rw [← hW1] at hb1 hr1 hr2 hz1
  have HB : Hid (∀ X, Below W1.heap.size W1 X → X.heap[w.heap.size]? = some (.cells #[.slice aS set.length cS, .int .i64 wait, .slice aU up.length cU, .int .i64 clock, .int .i64 epoch, .slice aL leases.length cL, .slice aR done.length cR, .slice aN net.length cN, .int .i64 room, .slice aI items.length cI] 43 (0, 0)) ∧ X.heap[w.heap.size + 1]? = some (.cells #[.slice bS set.length fS, .int .i64 wait, .slice bU up.length fU, .int .i64 clock, .int .i64 epoch, .slice bL leases.length fL, .slice bR done.length fR, .slice bN net.length fN, .int .i64 room, .slice bI items.length fI] 43 (0, 0)) ∧ Below w.heap.size w X) := fun X hX => ⟨(hX.block _ (by omega)).trans hr1, (hX.block _ (by omega)).trans hr2, hb1.trans (hX.mono (by omega))⟩
  have hX1 : Below W1.heap.size W1 W1 := Below.refl _ _
  clear hb1 hr1 hr2 hz1
  go_enter Tryz.func8, Tryz.ntmps8
  go_wp2_with fail
  rw [← hW1]
  clear hW1
  refine (HS.out _ (HB.out _ hX1).2.2).mono ?_
  rintro e w2 ⟨rfl, hb2⟩
  have hX2 : Below W1.heap.size W1 w2 := hX1.trans (hb2.mono hX1.size)
  clear HS hb2
  have p1 : w2.cell? ⟨w.heap.size, 1, none⟩ = some (.int .i64 wait) := by rw [cell_of_row _ _ 1 _ _ (0, 0) (HB.out _ hX2).1]; rfl
  have q1 : w2.cell? ⟨w.heap.size + 1, 1, none⟩ = some (.int .i64 wait) := by rw [cell_of_row _ _ 1 _ _ (0, 0) (HB.out _ hX2).2.1]; rfl
  have p2 : w2.cell? ⟨w.heap.size, 2, none⟩ = some (.slice aU up.length cU) := by rw [cell_of_row _ _ 2 _ _ (0, 0) (HB.out _ hX2).1]; rfl
  have q2 : w2.cell? ⟨w.heap.size + 1, 2, none⟩ = some (.slice bU up.length fU) := by rw [cell_of_row _ _ 2 _ _ (0, 0) (HB.out _ hX2).2.1]; rfl
  go_wp2_with fail
  refine (HU.out _ (HB.out _ hX2).2.2).mono ?_
  rintro e w3 ⟨rfl, hb3⟩
  have hX3 : Below W1.heap.size W1 w3 := hX2.trans (hb3.mono hX2.size)
  clear HU hb3 p1 q1 p2 q2
  have p3 : w3.cell? ⟨w.heap.size, 3, none⟩ = some (.int .i64 clock) := by rw [cell_of_row _ _ 3 _ _ (0, 0) (HB.out _ hX3).1]; rfl
  have q3 : w3.cell? ⟨w.heap.size + 1, 3, none⟩ = some (.int .i64 clock) := by rw [cell_of_row _ _ 3 _ _ (0, 0) (HB.out _ hX3).2.1]; rfl
  have p4 : w3.cell? ⟨w.heap.size, 4, none⟩ = some (.int .i64 epoch) := by rw [cell_of_row _ _ 4 _ _ (0, 0) (HB.out _ hX3).1]; rfl
  have q4 : w3.cell? ⟨w.heap.size + 1, 4, none⟩ = some (.int .i64 epoch) := by rw [cell_of_row _ _ 4 _ _ (0, 0) (HB.out _ hX3).2.1]; rfl
  have p5 : w3.cell? ⟨w.heap.size, 5, none⟩ = some (.slice aL leases.length cL) := by rw [cell_of_row _ _ 5 _ _ (0, 0) (HB.out _ hX3).1]; rfl
  have q5 : w3.cell? ⟨w.heap.size + 1, 5, none⟩ = some (.slice bL leases.length fL) := by rw [cell_of_row _ _ 5 _ _ (0, 0) (HB.out _ hX3).2.1]; rfl
  go_wp2_with fail
  refine (HL.out _ (HB.out _ hX3).2.2).mono ?_
  rintro e w4 ⟨rfl, hb4⟩
  have hX4 : Below W1.heap.size W1 w4 := hX3.trans (hb4.mono hX3.size)
  clear HL hb4 p3 q3 p4 q4 p5 q5
  have p6 : w4.cell? ⟨w.heap.size, 6, none⟩ = some (.slice aR done.length cR) := by rw [cell_of_row _ _ 6 _ _ (0, 0) (HB.out _ hX4).1]; rfl
  have q6 : w4.cell? ⟨w.heap.size + 1, 6, none⟩ = some (.slice bR done.length fR) := by rw [cell_of_row _ _ 6 _ _ (0, 0) (HB.out _ hX4).2.1]; rfl
  go_wp2_with fail
  refine (HR.out _ (HB.out _ hX4).2.2).mono ?_
  rintro e w5 ⟨rfl, hb5⟩
  have hX5 : Below W1.heap.size W1 w5 := hX4.trans (hb5.mono hX4.size)
  clear HR hb5 p6 q6
  have p7 : w5.cell? ⟨w.heap.size, 7, none⟩ = some (.slice aN net.length cN) := by rw [cell_of_row _ _ 7 _ _ (0, 0) (HB.out _ hX5).1]; rfl
  have q7 : w5.cell? ⟨w.heap.size + 1, 7, none⟩ = some (.slice bN net.length fN) := by rw [cell_of_row _ _ 7 _ _ (0, 0) (HB.out _ hX5).2.1]; rfl
  go_wp2_with fail
  refine (HN.out _ (HB.out _ hX5).2.2).mono ?_
  rintro e w6 ⟨rfl, hb6⟩
  have hX6 : Below W1.heap.size W1 w6 := hX5.trans (hb6.mono hX5.size)
  clear HN hb6 p7 q7
  have p8 : w6.cell? ⟨w.heap.size, 8, none⟩ = some (.int .i64 room) := by rw [cell_of_row _ _ 8 _ _ (0, 0) (HB.out _ hX6).1]; rfl
  have q8 : w6.cell? ⟨w.heap.size + 1, 8, none⟩ = some (.int .i64 room) := by rw [cell_of_row _ _ 8 _ _ (0, 0) (HB.out _ hX6).2.1]; rfl
  have p9 : w6.cell? ⟨w.heap.size, 9, none⟩ = some (.slice aI items.length cI) := by rw [cell_of_row _ _ 9 _ _ (0, 0) (HB.out _ hX6).1]; rfl
  have q9 : w6.cell? ⟨w.heap.size + 1, 9, none⟩ = some (.slice bI items.length fI) := by rw [cell_of_row _ _ 9 _ _ (0, 0) (HB.out _ hX6).2.1]; rfl
  go_wp2_with fail
  refine (HI.out _ (HB.out _ hX6).2.2).mono ?_
  rintro e w7 ⟨rfl, hb7⟩
  have hX7 : Below W1.heap.size W1 w7 := hX6.trans (hb7.mono hX6.size)
  clear HI hb7 p8 q8 p9 q9
  go_wp2_with fail
  go_ret
  exact ⟨rfl, (HB.out _ hX7).2.2⟩

end Go.Proofs.YtikoacgfnojoeaaGreatDoor

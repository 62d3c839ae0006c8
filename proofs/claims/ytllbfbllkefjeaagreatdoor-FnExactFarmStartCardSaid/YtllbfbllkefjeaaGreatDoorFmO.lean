/-
  A farm that is handed in, opened: its lists of leases, packets, bools and results.
  The walks of the laws' own helpers szFarm, eqFarm and toFarm.
-/
import Derived.Test.YtllbfbllkefjeaaGreatDoorFmL
import Derived.Test.YtllbfbllkefjeaaGreatDoorRsR
import Derived.Test.YtllbfbllkefjeaaGreatDoorSrD
import Derived.Test.YtllbfbllkefjeaaGreatDoorItD
namespace Go.Proofs.YtllbfbllkefjeaaGreatDoor
open Go.ChangeShapes Go.WideShapes Go.ChangeAt Go.RowKit

set_option maxRecDepth 100000 in
/-- a list that is handed in, opened, where each of its elements is -/
theorem openedA {α : Type} [Inhabited α] {H : Type} {enc : TypeId × Value → H} {W : World} {base : Nat} {sp : Nat → Bool} {held : Bool} {T E : TypeId} (z : Nat) (hz : 0 < z) (f : α → List Value) (P : α → Prop) (hT : Tryz.prog.underlying T = some (.slice E)) (hcE : Tryz.prog.cellsOf E = z) (hl : ∀ e, (f e).length = z)
    (one : ∀ m cs x, DataW.trod enc Tryz.prog W base sp held m E cs = some x → ∃ e, cs = f e ∧ P e) (n : Nat) (v : Value) (x : DataW H × List MemPlace) (h : DataW.trod enc Tryz.prog W base sp held n T [v] = some x) : ∃ es : List α, RowA z f W v es ∧ es.length ≤ maxLen ∧ ∀ e ∈ es, P e := by
  rcases DataW.trod_slice hT h with ⟨hcs, _⟩ | ⟨a, len, cap, elems, rest, m2, rfl, hcs, _, hb, hlc, hcm, hel, heach, _, _⟩
  · obtain rfl : v = .slice none 0 0 := by simpa using hcs
    exact ⟨[], .inl ⟨rfl, _, _, rfl⟩, by simp, by simp⟩
  · obtain rfl : v = .slice (some a) len cap := by simpa using hcs
    rw [hcE] at heach
    have each : ∀ i, i < len → ∃ q : α, P q ∧ ∀ c u, (f q)[c]? = some u → W.cell? ((a.add (i * z)).add c) = some u := fun i hi => by
      have hi2 := heach i hi
      rw [List.getElem?_eq_getElem (by omega)] at hi2
      obtain ⟨cs', h1, h2⟩ := Option.bind_eq_some_iff.1 hi2
      obtain ⟨t, rfl, ht⟩ := one m2 cs' _ h2
      obtain ⟨_, hlen, hcell⟩ := World.cells?_some h1
      refine ⟨t, ht, fun c u hu => ?_⟩
      have hc : c < z := by
        have := (List.getElem?_eq_some_iff.1 hu).1
        rw [hl] at this
        exact this
      rw [hcell c hc]
      exact hu
    obtain ⟨q, hq⟩ := Go.Deep.choose_lt each
    refine ⟨(List.range len).map fun i => q i, ?_, by simp; omega, fun e he => ?_⟩
    · by_cases h0 : len = 0
      · subst h0
        exact .inl ⟨rfl, _, _, rfl⟩
      · obtain ⟨b, off, spot⟩ := a
        obtain ⟨u0, hu0⟩ : ∃ u, (f (q 0))[0]? = some u := ⟨_, List.getElem?_eq_getElem (by rw [hl]; exact hz)⟩
        have hc0 := (hq 0 (by omega)).2 0 _ hu0
        have hspot : spot = none := by simpa [Addr.add] using World.cell?_spot hc0
        subst hspot
        rw [Addr.add_lit, Addr.add_lit] at hc0
        refine .inr ⟨b, off, cap, by simp, World.block_lt_of_cell? W _ hc0, fun j hj c u hu => ?_⟩
        have hj2 : j < len := by simpa using hj
        simp only [List.getElem_map, List.getElem_range] at hu
        have := (hq j hj2).2 c u hu
        rw [Addr.add_lit, Addr.add_lit] at this
        exact this
    · obtain ⟨i, hi, rfl⟩ := List.mem_map.1 he
      exact (hq i (by simpa using hi)).1

theorem opened_int {H : Type} {enc : TypeId × Value → H} {W : World} {base : Nat} {sp : Nat → Bool} {held : Bool} {m : Nat} {v : Value} {x : DataW H × List MemPlace} (h : DataW.trod enc Tryz.prog W base sp held m 3 [v] = some x) : ∃ k : Int, v = .int .i64 k ∧ -9223372036854775808 ≤ k ∧ k ≤ 9223372036854775807 := by
  obtain ⟨k, hk, _, hwf⟩ := DataW.trod_int Tryz.underlying3 h
  obtain rfl : v = .int .i64 k := by simpa using hk
  exact ⟨k, rfl, by simpa [Lit.wf, IntKind.min, IntKind.max, IntKind.signed, IntKind.bits] using hwf⟩
theorem opened_str {H : Type} {enc : TypeId × Value → H} {W : World} {base : Nat} {sp : Nat → Bool} {held : Bool} {m : Nat} {v : Value} {x : DataW H × List MemPlace} (h : DataW.trod enc Tryz.prog W base sp held m 9 [v] = some x) : ∃ s : ByteArray, v = .string s ∧ s.size ≤ maxLen := by
  obtain ⟨s, hs, _, hz⟩ := DataW.trod_string Tryz.underlying9 h
  exact ⟨s, by simpa using hs, hz⟩
theorem cInt : Tryz.prog.cellsOf 3 = 1 := by kernel_rfl
theorem cStr : Tryz.prog.cellsOf 9 = 1 := by kernel_rfl

theorem opened_bo {H : Type} {enc : TypeId × Value → H} {W : World} {base : Nat} {sp : Nat → Bool} {held : Bool} (n : Nat) (cs : List Value) (x : DataW H × List MemPlace) (h : DataW.trod enc Tryz.prog W base sp held n 4 cs = some x) : ∃ e : Bool, cs = BoF e ∧ True := by
  obtain ⟨b, hb, _⟩ := DataW.trod_bool Tryz.underlying4 h
  exact ⟨b, by simpa [BoF] using hb, trivial⟩

/-- one depth for all results of a list -/
theorem res_deep {W : World} (es : List ResV) (h : ∀ e ∈ es, ∃ d, e.at W d) : ∃ d, ∀ e ∈ es, e.at W d := by
  induction es with
  | nil => exact ⟨0, fun e he => by simp at he⟩
  | cons x r ih =>
    obtain ⟨d1, h1⟩ := h x (List.mem_cons_self ..)
    obtain ⟨d2, h2⟩ := ih fun e he => h e (List.mem_cons_of_mem _ he)
    refine ⟨max d1 d2, fun e he => ?_⟩
    rcases List.mem_cons.1 he with rfl | he
    · exact ⟨h1.1, h1.2.1.deep (Nat.le_max_left _ _), h1.2.2.deep (Nat.le_max_left _ _)⟩
    · obtain ⟨a, b, c⟩ := h2 e he
      exact ⟨a, b.deep (Nat.le_max_right _ _), c.deep (Nat.le_max_right _ _)⟩

/-- a farm, its lists by their slices -/
structure FarmV where
  vS : Value
  set : List Src
  wait : Int
  vU : Value
  up : List Bool
  clock : Int
  epoch : Int
  vL : Value
  leases : List LeR
  vR : Value
  done : List ResV
  vN : Value
  net : List PaR
  room : Int
  vI : Value
  items : List Itm
def FarmV.cells (e : FarmV) : List Value := [e.vS, .int .i64 e.wait, e.vU, .int .i64 e.clock, .int .i64 e.epoch, e.vL, e.vR, e.vN, .int .i64 e.room, e.vI]
structure FarmV.at (w : World) (n : Nat) (e : FarmV) : Prop where
  set : SrcAt w e.vS e.set
  up : RowA 1 BoF w e.vU e.up
  leases : RowA 3 LeF w e.vL e.leases
  done : ResAt w n e.vR e.done
  net : RowA 3 PaF w e.vN e.net
  items : ItAt w e.vI e.items
theorem FarmV.at.below {w w' : World} {n : Nat} {e : FarmV} (h : e.at w n) (hb : Below w.heap.size w w') : e.at w' n := ⟨h.set.below hb, h.up.below hb, h.leases.below hb, h.done.below hb, h.net.below hb, h.items.below hb⟩
structure FarmV.few (e : FarmV) : Prop where
  set : e.set.length ≤ maxLen ∧ ∀ s ∈ e.set, s.1.size ≤ maxLen ∧ s.2.size ≤ maxLen
  up : e.up.length ≤ maxLen
  leases : e.leases.length ≤ maxLen ∧ ∀ s ∈ e.leases, LeS s ≤ maxLen
  done : e.done.length ≤ maxLen ∧ ∀ s ∈ e.done, s.few
  net : e.net.length ≤ maxLen ∧ ∀ s ∈ e.net, PaS s ≤ maxLen
  items : e.items.length ≤ maxLen ∧ ∀ s ∈ e.items, s.1.size ≤ maxLen ∧ s.2.1.size ≤ maxLen ∧ s.2.2.size ≤ maxLen

end Go.Proofs.YtllbfbllkefjeaaGreatDoor

namespace Go.Proofs.YtllbfbllkefjeaaGreatDoor
open Go.RowKit

theorem srcAbove {w w3 : World} {B b n c : Nat} {es : List Src} (h : SrcAt w (.slice (some ⟨b, 0, none⟩) n c) es) (ha : Above B w w3) (hb : B ≤ b) : SrcAt w3 (.slice (some ⟨b, 0, none⟩) n c) es := by
  rcases h with h | ⟨b', off, cap, e, hc⟩
  · exact .inl h
  · simp only [Value.slice.injEq, Option.some.injEq, Addr.mk.injEq] at e
    obtain ⟨⟨rfl, rfl, _⟩, rfl, rfl⟩ := e
    have hk : ∀ i u, w.cell? ⟨b, i, none⟩ = some u → w3.cell? ⟨b, i, none⟩ = some u := fun i u hu => by
      have := ha.2 b hb (World.block_lt_of_cell? w _ hu)
      simpa only [World.cell?, this] using hu
    exact .inr ⟨b, 0, c, rfl, fun j hj => ⟨hk _ _ (hc j hj).1, hk _ _ (hc j hj).2⟩⟩
theorem itAbove {w w3 : World} {B b n c : Nat} {es : List Itm} (h : ItAt w (.slice (some ⟨b, 0, none⟩) n c) es) (ha : Above B w w3) (hb : B ≤ b) : ItAt w3 (.slice (some ⟨b, 0, none⟩) n c) es := by
  rcases h with h | ⟨b', off, cap, e, hc⟩
  · exact .inl h
  · simp only [Value.slice.injEq, Option.some.injEq, Addr.mk.injEq] at e
    obtain ⟨⟨rfl, rfl, _⟩, rfl, rfl⟩ := e
    have hk : ∀ i u, w.cell? ⟨b, i, none⟩ = some u → w3.cell? ⟨b, i, none⟩ = some u := fun i u hu => by
      have := ha.2 b hb (World.block_lt_of_cell? w _ hu)
      simpa only [World.cell?, this] using hu
    exact .inr ⟨b, 0, c, rfl, fun j hj => ⟨hk _ _ (hc j hj).1, hk _ _ (hc j hj).2.1, hk _ _ (hc j hj).2.2⟩⟩
theorem rowAbove {α : Type} {z : Nat} {f : α → List Value} {w w3 : World} {B b n c : Nat} {es : List α} (h : RowA z f w (.slice (some ⟨b, 0, none⟩) n c) es) (ha : Above B w w3) (hb : B ≤ b) : RowA z f w3 (.slice (some ⟨b, 0, none⟩) n c) es := by
  rcases h with h | ⟨b', off, cap, e, hl, hc⟩
  · exact .inl h
  · simp only [Value.slice.injEq, Option.some.injEq, Addr.mk.injEq] at e
    obtain ⟨⟨rfl, rfl, _⟩, rfl, rfl⟩ := e
    have hk : ∀ i u, w.cell? ⟨b, i, none⟩ = some u → w3.cell? ⟨b, i, none⟩ = some u := fun i u hu => by
      have := ha.2 b hb (World.block_lt_of_cell? w _ hu)
      simpa only [World.cell?, this] using hu
    exact .inr ⟨b, 0, c, rfl, Nat.lt_of_lt_of_le hl ha.1, fun j hj i u hu => hk _ _ (hc j hj i u hu)⟩

/-- two farms that hold the same -/
structure FarmV.same (e f : FarmV) : Prop where
  set : e.set = f.set
  wait : e.wait = f.wait
  up : e.up = f.up
  clock : e.clock = f.clock
  epoch : e.epoch = f.epoch
  leases : e.leases = f.leases
  done : SameRs e.done f.done
  net : e.net = f.net
  room : e.room = f.room
  items : e.items = f.items
theorem FarmV.same.symm {e f : FarmV} (h : e.same f) : f.same e := ⟨h.set.symm, h.wait.symm, h.up.symm, h.clock.symm, h.epoch.symm, h.leases.symm, h.done.symm, h.net.symm, h.room.symm, h.items.symm⟩
theorem FarmV.same.trans {e f g : FarmV} (h : e.same f) (k : f.same g) : e.same g := ⟨h.set.trans k.set, h.wait.trans k.wait, h.up.trans k.up, h.clock.trans k.clock, h.epoch.trans k.epoch, h.leases.trans k.leases, h.done.trans k.done, h.net.trans k.net, h.room.trans k.room, h.items.trans k.items⟩
/-- how much a farm holds -/
def farmB (n : Nat) (e : FarmV) : Nat := srsBulk e.set + e.up.length + bulkA LeS e.leases + bulkA (resB n) e.done + bulkA PaS e.net + itsBulk e.items

set_option maxHeartbeats 800000 in
set_option maxRecDepth 100000 in
theorem lawsSzStoreL (left room : Int) (v : Value) (es : List Itm) (w : World) (hrow : ItAt w v es) (hkl : es.length ≤ maxLen) (hsz : ∀ e ∈ es, e.1.size ≤ maxLen ∧ e.2.1.size ≤ maxLen ∧ e.2.2.size ≤ maxLen) (h0 : 0 ≤ left) (h1 : left ≤ 1048576) :
    Calls Tryz.prog 5 #[.agg #[.int .i64 room, v], .int .i64 left] w fun e w' => e = .returned (.int .i64 (leftA (itsBulk es) left)) ∧ Below w.heap.size w w' := by
  obtain ⟨av, capv, rfl, _⟩ := itOpen hrow
  have hB1 : Below w.heap.size w (w.alloc (.cells #[.int .i64 room, .slice av es.length capv] 25)) := (Below.refl _ _).alloc (Nat.le_refl _) _
  have HC : Hid (∀ wx, Below w.heap.size w wx → Calls Tryz.prog 18 #[.slice av es.length capv, .int .i64 left] wx fun e w' => e = .returned (.int .i64 (leftA (itsBulk es) left)) ∧ Below wx.heap.size wx w') := fun wx hx => lawsSzIts _ es left wx (hrow.below hx) hkl hsz h0 h1
  clear hrow hsz
  by_cases hbk : (itsBulk es : Int) ≤ left
  · rw [leftA_yes hbk] at HC ⊢
    generalize itsBulk es = B at *
    have hn : ¬ (left - (B : Int) < 0) := by omega
    go_enter Tryz.func5, Tryz.ntmps5
    go_wp2_with fail
    refine (HC.out _ hB1).mono ?_
    rintro e w2 ⟨rfl, hb2⟩
    have hw2 := hB1.trans (hb2.mono hB1.size)
    go_wp2_with fail
    go_ret
    exact ⟨rfl, hw2⟩
  · rw [leftA_no hbk] at HC ⊢
    go_enter Tryz.func5, Tryz.ntmps5
    go_wp2_with fail
    refine (HC.out _ hB1).mono ?_
    rintro e w2 ⟨rfl, hb2⟩
    have hw2 := hB1.trans (hb2.mono hB1.size)
    go_wp2_with fail
    go_ret
    exact ⟨rfl, hw2⟩

theorem farm_parts {n : Nat} {e : FarmV} (h : farmB n e ≤ 1048576) : e.set.length ≤ 1048576 ∧ e.up.length ≤ 1048576 ∧ e.leases.length ≤ 1048576 ∧ e.done.length ≤ 1048576 ∧ e.net.length ≤ 1048576 ∧ e.items.length ≤ 1048576 ∧ (∀ r ∈ e.done, resB n r ≤ 1048576) ∧ bulkA (resB n) e.done ≤ 1048576 ∧ srsBulk e.set ≤ 1048576 := by
  have h1 : e.set.length ≤ srsBulk e.set := by unfold srsBulk; omega
  have h2 : e.leases.length ≤ bulkA LeS e.leases := by unfold bulkA; omega
  have h3 : e.done.length ≤ bulkA (resB n) e.done := by unfold bulkA; omega
  have h4 : e.net.length ≤ bulkA PaS e.net := by unfold bulkA; omega
  have h5 : e.items.length ≤ itsBulk e.items := by unfold itsBulk; omega
  unfold farmB at h
  refine ⟨by omega, by omega, by omega, by omega, by omega, by omega, fun r hr => ?_, by omega, by omega⟩
  obtain ⟨j, hj, rfl⟩ := List.getElem_of_mem hr
  have := bulkA_one (resB n) e.done j hj
  omega

set_option maxHeartbeats 3200000 in
set_option maxRecDepth 100000 in
theorem lawsEqFarmP (n : Nat) (e f : FarmV) (w : World) (h : e.at w n) (g : f.at w n) (hs : e.same f) (p1 : e.set.length ≤ 1048576) (p2 : e.up.length ≤ 1048576) (p3 : e.leases.length ≤ 1048576) (p4 : e.done.length ≤ 1048576) (p5 : e.net.length ≤ 1048576) (p6 : e.items.length ≤ 1048576) (hrs : ∀ r ∈ e.done, resB n r ≤ 1048576) :
    Calls Tryz.prog 10 #[.agg e.cells.toArray, .agg f.cells.toArray] w fun r w' => r = .returned (.bool true) ∧ Below w.heap.size w w' := by
  obtain ⟨vS, set, wait, vU, up, clock, epoch, vL, leases, vR, done, vN, net, room, vI, items⟩ := e
  obtain ⟨uS, set2, wait2, uU, up2, clock2, epoch2, uL, leases2, uR, done2, uN, net2, room2, uI, items2⟩ := f
  obtain ⟨rfl, rfl, rfl, rfl, rfl, rfl, sR, rfl, rfl, rfl⟩ := hs
  simp only at p1 p2 p3 p4 p5 p6 hrs sR
  obtain ⟨hS, hU, hL, hR, hN, hI⟩ := h
  obtain ⟨gS, gU, gL, gR, gN, gI⟩ := g
  simp only at hS hU hL hR hN hI gS gU gL gR gN gI
  obtain ⟨aS, cS, rfl, _⟩ := srcOpen hS
  obtain ⟨aU, cU, rfl, _⟩ := rowA_open hU
  obtain ⟨aL, cL, rfl, _⟩ := rowA_open hL
  obtain ⟨aR, cR, rfl, _⟩ := rowA_open hR.1
  obtain ⟨aN, cN, rfl, _⟩ := rowA_open hN
  obtain ⟨aI, cI, rfl, _⟩ := itOpen hI
  obtain ⟨bS, fS, rfl, _⟩ := srcOpen gS
  obtain ⟨bU, fU, rfl, _⟩ := rowA_open gU
  obtain ⟨bL, fL, rfl, _⟩ := rowA_open gL
  obtain ⟨bR, fR, rfl, _⟩ := rowA_open gR.1
  obtain ⟨bN, fN, rfl, _⟩ := rowA_open gN
  obtain ⟨bI, fI, rfl, _⟩ := itOpen gI
  rw [← sR.1] at gR ⊢
  show Calls Tryz.prog 10 #[.agg #[.slice aS set.length cS, .int .i64 wait, .slice aU up.length cU, .int .i64 clock, .int .i64 epoch, .slice aL leases.length cL, .slice aR done.length cR, .slice aN net.length cN, .int .i64 room, .slice aI items.length cI], .agg #[.slice bS set.length fS, .int .i64 wait, .slice bU up.length fU, .int .i64 clock, .int .i64 epoch, .slice bL leases.length fL, .slice bR done.length fR, .slice bN net.length fN, .int .i64 room, .slice bI items.length fI]] w _
  have hb1 : Below w.heap.size w ((w.alloc (.cells #[.slice aS set.length cS, .int .i64 wait, .slice aU up.length cU, .int .i64 clock, .int .i64 epoch, .slice aL leases.length cL, .slice aR done.length cR, .slice aN net.length cN, .int .i64 room, .slice aI items.length cI] 37)).alloc (.cells #[.slice bS set.length fS, .int .i64 wait, .slice bU up.length fU, .int .i64 clock, .int .i64 epoch, .slice bL leases.length fL, .slice bR done.length fR, .slice bN net.length fN, .int .i64 room, .slice bI items.length fI] 37)) := ((Below.refl _ _).alloc (Nat.le_refl _) _).alloc (by simp) _
  have hr1 : ((w.alloc (.cells #[.slice aS set.length cS, .int .i64 wait, .slice aU up.length cU, .int .i64 clock, .int .i64 epoch, .slice aL leases.length cL, .slice aR done.length cR, .slice aN net.length cN, .int .i64 room, .slice aI items.length cI] 37)).alloc (.cells #[.slice bS set.length fS, .int .i64 wait, .slice bU up.length fU, .int .i64 clock, .int .i64 epoch, .slice bL leases.length fL, .slice bR done.length fR, .slice bN net.length fN, .int .i64 room, .slice bI items.length fI] 37)).heap[w.heap.size]? = some (.cells #[.slice aS set.length cS, .int .i64 wait, .slice aU up.length cU, .int .i64 clock, .int .i64 epoch, .slice aL leases.length cL, .slice aR done.length cR, .slice aN net.length cN, .int .i64 room, .slice aI items.length cI] 37 (0, 0)) := ((MapKept.heap_alloc (w.alloc _) _).2 _ (by simp)).trans (MapKept.heap_alloc w _).1
  have hr2 : ((w.alloc (.cells #[.slice aS set.length cS, .int .i64 wait, .slice aU up.length cU, .int .i64 clock, .int .i64 epoch, .slice aL leases.length cL, .slice aR done.length cR, .slice aN net.length cN, .int .i64 room, .slice aI items.length cI] 37)).alloc (.cells #[.slice bS set.length fS, .int .i64 wait, .slice bU up.length fU, .int .i64 clock, .int .i64 epoch, .slice bL leases.length fL, .slice bR done.length fR, .slice bN net.length fN, .int .i64 room, .slice bI items.length fI] 37)).heap[w.heap.size + 1]? = some (.cells #[.slice bS set.length fS, .int .i64 wait, .slice bU up.length fU, .int .i64 clock, .int .i64 epoch, .slice bL leases.length fL, .slice bR done.length fR, .slice bN net.length fN, .int .i64 room, .slice bI items.length fI] 37 (0, 0)) := by
    have := (MapKept.heap_alloc (w.alloc (.cells #[.slice aS set.length cS, .int .i64 wait, .slice aU up.length cU, .int .i64 clock, .int .i64 epoch, .slice aL leases.length cL, .slice aR done.length cR, .slice aN net.length cN, .int .i64 room, .slice aI items.length cI] 37)) (.cells #[.slice bS set.length fS, .int .i64 wait, .slice bU up.length fU, .int .i64 clock, .int .i64 epoch, .slice bL leases.length fL, .slice bR done.length fR, .slice bN net.length fN, .int .i64 room, .slice bI items.length fI] 37)).1
    simpa using this
  have hz1 : ((w.alloc (.cells #[.slice aS set.length cS, .int .i64 wait, .slice aU up.length cU, .int .i64 clock, .int .i64 epoch, .slice aL leases.length cL, .slice aR done.length cR, .slice aN net.length cN, .int .i64 room, .slice aI items.length cI] 37)).alloc (.cells #[.slice bS set.length fS, .int .i64 wait, .slice bU up.length fU, .int .i64 clock, .int .i64 epoch, .slice bL leases.length fL, .slice bR done.length fR, .slice bN net.length fN, .int .i64 room, .slice bI items.length fI] 37)).heap.size = w.heap.size + 1 + 1 := by simp
  have HS : Hid (∀ wx, Below w.heap.size w wx → Calls Tryz.prog 11 #[.slice aS set.length cS, .slice bS set.length fS] wx fun e w' => e = .returned (.bool true) ∧ Below wx.heap.size wx w') := fun wx hx => lawsEqSrs _ _ set wx (hS.below hx) (gS.below hx) (by omega)
  have HU : Hid (∀ wx, Below w.heap.size w wx → Calls Tryz.prog 28 #[.slice aU up.length cU, .slice bU up.length fU] wx fun e w' => e = .returned (.bool true) ∧ Below wx.heap.size wx w') := fun wx hx => lawsEqBos _ _ up wx (hU.below hx) (gU.below hx) (by omega)
  have HL : Hid (∀ wx, Below w.heap.size w wx → Calls Tryz.prog 29 #[.slice aL leases.length cL, .slice bL leases.length fL] wx fun e w' => e = .returned (.bool true) ∧ Below wx.heap.size wx w') := fun wx hx => lawsEqLes _ _ leases wx (hL.below hx) (gL.below hx) (by omega)
  have HR : Hid (∀ wx, Below w.heap.size w wx → Calls Tryz.prog 30 #[.slice aR done.length cR, .slice bR done.length fR] wx fun e w' => e = .returned (.bool true) ∧ Below wx.heap.size wx w') := fun wx hx => lawsEqRess n _ _ done done2 wx (hR.below hx) (gR.below hx) sR (by omega) hrs
  have HN : Hid (∀ wx, Below w.heap.size w wx → Calls Tryz.prog 31 #[.slice aN net.length cN, .slice bN net.length fN] wx fun e w' => e = .returned (.bool true) ∧ Below wx.heap.size wx w') := fun wx hx => lawsEqPas _ _ net wx (hN.below hx) (gN.below hx) (by omega)
  have HI : Hid (∀ wx, Below w.heap.size w wx → Calls Tryz.prog 12 #[.agg #[.int .i64 room, .slice aI items.length cI], .agg #[.int .i64 room, .slice bI items.length fI]] wx fun e w' => e = .returned (.bool true) ∧ Below wx.heap.size wx w') := fun wx hx => lawsEqStore room _ _ items wx (hI.below hx) (gI.below hx) (by omega)
  clear hS hU hL hR hN hI gS gU gL gR gN gI sR hrs
  obtain ⟨W1, hW1⟩ : ∃ W1, W1 = (w.alloc (.cells #[.slice aS set.length cS, .int .i64 wait, .slice aU up.length cU, .int .i64 clock, .int .i64 epoch, .slice aL leases.length cL, .slice aR done.length cR, .slice aN net.length cN, .int .i64 room, .slice aI items.length cI] 37)).alloc (.cells #[.slice bS set.length fS, .int .i64 wait, .slice bU up.length fU, .int .i64 clock, .int .i64 epoch, .slice bL leases.length fL, .slice bR done.length fR, .slice bN net.length fN, .int .i64 room, .slice bI items.length fI] 37) := ⟨_, rfl⟩
  rw [← hW1] at hb1 hr1 hr2 hz1
  have HB : Hid (∀ X, Below W1.heap.size W1 X → X.heap[w.heap.size]? = some (.cells #[.slice aS set.length cS, .int .i64 wait, .slice aU up.length cU, .int .i64 clock, .int .i64 epoch, .slice aL leases.length cL, .slice aR done.length cR, .slice aN net.length cN, .int .i64 room, .slice aI items.length cI] 37 (0, 0)) ∧ X.heap[w.heap.size + 1]? = some (.cells #[.slice bS set.length fS, .int .i64 wait, .slice bU up.length fU, .int .i64 clock, .int .i64 epoch, .slice bL leases.length fL, .slice bR done.length fR, .slice bN net.length fN, .int .i64 room, .slice bI items.length fI] 37 (0, 0)) ∧ Below w.heap.size w X) := fun X hX => ⟨(hX.block _ (by omega)).trans hr1, (hX.block _ (by omega)).trans hr2, hb1.trans (hX.mono (by omega))⟩
  have hX1 : Below W1.heap.size W1 W1 := Below.refl _ _
  clear hb1 hr1 hr2 hz1
  go_enter Tryz.func10, Tryz.ntmps10
  go_wp2_with fail
  rw [← hW1]
  clear hW1
  refine (HS.out _ (HB.out _ hX1).2.2).mono ?_
  rintro e w2 ⟨rfl, hb2⟩
  have hX2 : Below W1.heap.size W1 w2 := hX1.trans (hb2.mono hX1.size)
  clear HS hb2
  have p1 : w2.cell? ⟨w.heap.size, 1, none⟩ = some (.int .i64 wait) := by rw [cell_of_row _ _ 1 _ _ (0, 0) (HB.out _ hX2).1]; rfl
  have q1 : w2.cell? ⟨w.heap.size + 1, 1, none⟩ = some (.int .i64 wait) := by rw [cell_of_row _ _ 1 _ _ (0, 0) (HB.out _ hX2).2.1]; rfl
  have p2 : w2.cell? ⟨w.heap.size, 2, none⟩ = some (.slice aU up.length cU) := by rw [cell_of_row _ _ 2 _ _ (0, 0) (HB.out _ hX2).1]; rfl
  have q2 : w2.cell? ⟨w.heap.size + 1, 2, none⟩ = some (.slice bU up.length fU) := by rw [cell_of_row _ _ 2 _ _ (0, 0) (HB.out _ hX2).2.1]; rfl
  go_wp2_with fail
  refine (HU.out _ (HB.out _ hX2).2.2).mono ?_
  rintro e w3 ⟨rfl, hb3⟩
  have hX3 : Below W1.heap.size W1 w3 := hX2.trans (hb3.mono hX2.size)
  clear HU hb3 p1 q1 p2 q2
  have p3 : w3.cell? ⟨w.heap.size, 3, none⟩ = some (.int .i64 clock) := by rw [cell_of_row _ _ 3 _ _ (0, 0) (HB.out _ hX3).1]; rfl
  have q3 : w3.cell? ⟨w.heap.size + 1, 3, none⟩ = some (.int .i64 clock) := by rw [cell_of_row _ _ 3 _ _ (0, 0) (HB.out _ hX3).2.1]; rfl
  have p4 : w3.cell? ⟨w.heap.size, 4, none⟩ = some (.int .i64 epoch) := by rw [cell_of_row _ _ 4 _ _ (0, 0) (HB.out _ hX3).1]; rfl
  have q4 : w3.cell? ⟨w.heap.size + 1, 4, none⟩ = some (.int .i64 epoch) := by rw [cell_of_row _ _ 4 _ _ (0, 0) (HB.out _ hX3).2.1]; rfl
  have p5 : w3.cell? ⟨w.heap.size, 5, none⟩ = some (.slice aL leases.length cL) := by rw [cell_of_row _ _ 5 _ _ (0, 0) (HB.out _ hX3).1]; rfl
  have q5 : w3.cell? ⟨w.heap.size + 1, 5, none⟩ = some (.slice bL leases.length fL) := by rw [cell_of_row _ _ 5 _ _ (0, 0) (HB.out _ hX3).2.1]; rfl
  go_wp2_with fail
  refine (HL.out _ (HB.out _ hX3).2.2).mono ?_
  rintro e w4 ⟨rfl, hb4⟩
  have hX4 : Below W1.heap.size W1 w4 := hX3.trans (hb4.mono hX3.size)
  clear HL hb4 p3 q3 p4 q4 p5 q5
  have p6 : w4.cell? ⟨w.heap.size, 6, none⟩ = some (.slice aR done.length cR) := by rw [cell_of_row _ _ 6 _ _ (0, 0) (HB.out _ hX4).1]; rfl
  have q6 : w4.cell? ⟨w.heap.size + 1, 6, none⟩ = some (.slice bR done.length fR) := by rw [cell_of_row _ _ 6 _ _ (0, 0) (HB.out _ hX4).2.1]; rfl
  go_wp2_with fail
  refine (HR.out _ (HB.out _ hX4).2.2).mono ?_
  rintro e w5 ⟨rfl, hb5⟩
  have hX5 : Below W1.heap.size W1 w5 := hX4.trans (hb5.mono hX4.size)
  clear HR hb5 p6 q6
  have p7 : w5.cell? ⟨w.heap.size, 7, none⟩ = some (.slice aN net.length cN) := by rw [cell_of_row _ _ 7 _ _ (0, 0) (HB.out _ hX5).1]; rfl
  have q7 : w5.cell? ⟨w.heap.size + 1, 7, none⟩ = some (.slice bN net.length fN) := by rw [cell_of_row _ _ 7 _ _ (0, 0) (HB.out _ hX5).2.1]; rfl
  go_wp2_with fail
  refine (HN.out _ (HB.out _ hX5).2.2).mono ?_
  rintro e w6 ⟨rfl, hb6⟩
  have hX6 : Below W1.heap.size W1 w6 := hX5.trans (hb6.mono hX5.size)
  clear HN hb6 p7 q7
  have p8 : w6.cell? ⟨w.heap.size, 8, none⟩ = some (.int .i64 room) := by rw [cell_of_row _ _ 8 _ _ (0, 0) (HB.out _ hX6).1]; rfl
  have q8 : w6.cell? ⟨w.heap.size + 1, 8, none⟩ = some (.int .i64 room) := by rw [cell_of_row _ _ 8 _ _ (0, 0) (HB.out _ hX6).2.1]; rfl
  have p9 : w6.cell? ⟨w.heap.size, 9, none⟩ = some (.slice aI items.length cI) := by rw [cell_of_row _ _ 9 _ _ (0, 0) (HB.out _ hX6).1]; rfl
  have q9 : w6.cell? ⟨w.heap.size + 1, 9, none⟩ = some (.slice bI items.length fI) := by rw [cell_of_row _ _ 9 _ _ (0, 0) (HB.out _ hX6).2.1]; rfl
  go_wp2_with fail
  refine (HI.out _ (HB.out _ hX6).2.2).mono ?_
  rintro e w7 ⟨rfl, hb7⟩
  have hX7 : Below W1.heap.size W1 w7 := hX6.trans (hb7.mono hX6.size)
  clear HI hb7 p8 q8 p9 q9
  go_wp2_with fail
  go_ret
  exact ⟨rfl, (HB.out _ hX7).2.2⟩

theorem lawsEqFarm (n : Nat) (e f : FarmV) (w : World) (h : e.at w n) (g : f.at w n) (hs : e.same f) (hb : farmB n e ≤ 1048576) :
    Calls Tryz.prog 10 #[.agg e.cells.toArray, .agg f.cells.toArray] w fun r w' => r = .returned (.bool true) ∧ Below w.heap.size w w' := by
  obtain ⟨p1, p2, p3, p4, p5, p6, hrs, _, _⟩ := farm_parts hb
  exact lawsEqFarmP n e f w h g hs p1 p2 p3 p4 p5 p6 hrs

end Go.Proofs.YtllbfbllkefjeaaGreatDoor
